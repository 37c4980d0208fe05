/-
  What appendNumber, appendText, appendNode and Write of package tree answer.
  What the reader of package tree answers: all nodes; what Read answers.
  P47: the planter's items, directory by directory; what one item makes.
  P47: what directory of walk's planter answers.
  P37: what checkAll of package names answers: the first error of names.
  P37, P38 (no Go in it): texts cut at each slash by its first place; cut at most so often.
  The library's contracts at this program: strings_Index_one, stringslite_Index_one (laid by the guide's own tools, written out in plain words).
  strings.SplitN at a slash: at most nine parts, in a row of one's own.
  P37: what Split of package names answers.
  P39: what cmp.Compare and slices.Compare over texts, and Less of package names, answer.
  The library's contracts at this program: slices_Contains_string, slices_Contains_string_empty (laid by the guide's own tools, written out in plain words).
  P46: what checkItem and Check of package walk answer.
  P46: what Check of package walk answers.
  P47: what Plant of package walk answers.
  P47, P48 (no Go in it): what was planted is reaped as it was.
  P47 (no Go in it): a directory's text, and the blobs of a directory in the order in which they are told; of two worlds with one root.
  P47 (no Go in it): of a world in which one file is other no more new directories come than its path has names, and no more new pieces than it has.
  P47, P49 (no Go in it): each blob is told ahead of who needs it; all but the last one are needed.
  P47, P49 (no Go in it): all blobs but the last one are needed; the root's is the last one.
  The statements' small world (no Go in it): it is right, and it is planted without an error as four blobs.
  P48: what heapOf of package walk answers, and file of its reaper.
-/
import Derived.Test.YtimdioacmojkeabGreatDoorGC
import Derived.Lib.AppendStr
import Derived.Deep.Cut
import Derived.Deep.MidRow
import Derived.BigQuiet
import Derived.Test.YtimdioacmojkeabGreatDoorGA
import Derived.Test.YtimdioacmojkeabGreatDoorGB
import Derived.Lib.Strings
import Derived.Lib.Bytealg
import Derived.Lib.Split
import Derived.Shelf.Strings.Search2
import Derived.Shelf.Strings.Search3
import Derived.Test.YtimdioacmojkeabGreatDoorProg
import Derived.WalkKit
import Derived.Deep.LoopGhost
import Derived.Deep.OwnRows
import Derived.Deep.RegionWith
import Derived.Shelf.Slices.Turned
import Derived.OwnWalk

namespace Go.Proofs.YtimdioacmojkeabGreatDoor
open Go.RowKit
set_option maxRecDepth 4000

theorem tput9 (n : Nat) : (Nm.put n).length ≤ 9 := Nm.put_length n

/-- a block of another type is not that of a row of bytes -/
theorem tg_apart {base n G : Nat} {v : Value} {xs : List Value} {W : World} {cs : Array Value} {T : TypeId} {fr : Nat × Nat} (h : W.ownsRow base 5 1 v n xs) (hG : W.heap[G]? = some (.cells cs T fr)) (hT : T ≠ 5) : v.ownBlock ≠ some G := by
  intro e
  obtain ⟨cur, hh, _⟩ := own_block h e
  rw [hG, Option.some.injEq, Obj.cells.injEq] at hh
  exact hT hh.2.1

/-- what an appending answers: ys behind xs -/
def ApOut (base : Nat) (v : Value) (xs ys : List UInt8) (w : World) (e : Ending) (w' : World) : Prop :=
  ∃ v', e = .returned v' ∧ w'.ownsRow base 5 1 v' (xs ++ ys).length ((xs ++ ys).map B) ∧ Below base w w' ∧ Kept (fun k => v.ownBlock ≠ some k) w w'

set_option maxHeartbeats 1000000 in
theorem tnum_any (base : Nat) (v : Value) (xs : List UInt8) (n : Nat) (w : World) (hown : w.ownsRow base 5 1 v xs.length (xs.map B)) (hb : base ≤ w.heap.size) (hx : xs.length ≤ 1048576) (hn : n ≤ 1099511627776) :
    Calls Tryz.prog 53 #[v, .int .i64 n] w (ApOut base v xs (Nm.put n) w) := by
  unfold ApOut
  obtain ⟨i0, hi, hz0, hz1, hz2⟩ := info_of' info_u8
  obtain ⟨a, c, rfl⟩ := own_len hown
  have hp := num_put n w (by omega) (by omega)
  rw [Int.toNat_natCast] at hp
  have hl := Nm.dig_length_le n
  go_enter Tryz.func53, Tryz.ntmps53
  go_wp2_with fail
  refine hp.mono ?_
  rintro e w1 ⟨rfl, hb1⟩
  have hown1 := own_below hown hb1
  have hB1 : Below base w w1 := hb1.mono hb
  have hs1 := hB1.size
  have hpl : (Nm.put n).length ≤ 9 := tput9 n
  have HPS : Hid ((⟨(Nm.put n).toArray⟩ : ByteArray).size = (Nm.put n).length) := by show (Nm.put n).toArray.size = _; rw [List.size_toArray]
  have HK1 : Hid (Kept (fun k => (Value.slice a xs.length c).ownBlock ≠ some k) w w1) := Kept.of_below hb1
  clear hp hb1 hown
  obtain ⟨S, hS⟩ : ∃ S : ByteArray, (⟨(Nm.put n).toArray⟩ : ByteArray) = S := ⟨_, rfl⟩
  have HS : Hid (Lib.strCells S = (Nm.put n).map B ∧ S.size = (Nm.put n).length) := by rw [← hS]; exact ⟨rfl, HPS.out⟩
  have hSz : S.size ≤ 9 := by rw [HS.out.2]; exact hpl
  rw [hS]
  clear hS HPS hpl
  go_wp2_with (at_builtin; refine Lib.wpList_append_own_string _ rfl (.tmp 5) (.tmp 8) 89 9 rfl base 5 i0 Tryz.underlying89 Tryz.underlying9 hi hz0 hz1 hz2 _ _ _ rfl hown1 S rfl ?c3 ?c4 ?c5 ?_)
  case c3 => unfold maxLen; omega
  case c4 => omega
  case c5 => omega
  intro v1 w3 hown3 hgrow _
  have HO : Hid (w3.ownsRow base 5 1 v1 (xs ++ Nm.put n).length ((xs ++ Nm.put n).map B)) := by
    rw [HS.out.1, HS.out.2] at hown3
    rw [List.length_append, List.map_append]
    exact hown3
  have HB3 : Hid (Below base w w3) := hB1.grown hgrow (by omega) fun j hj => (hown1.lt j hj).1
  have HK3 : Hid (Kept (fun k => (Value.slice a xs.length c).ownBlock ≠ some k) w w3) := HK1.out.grown hgrow fun k hk hp => hp hk
  clear hown3 hgrow hown1 hB1
  go_wp2_with fail
  go_ret
  exact ⟨_, rfl, HO.out, HB3.out, HK3.out⟩

set_option maxHeartbeats 1000000 in
theorem ttext_any (base : Nat) (v : Value) (xs : List UInt8) (s : ByteArray) (w : World) (hown : w.ownsRow base 5 1 v xs.length (xs.map B)) (hb : base ≤ w.heap.size) (hx : xs.length ≤ 1048576) (hn : s.size ≤ 1024) :
    Calls Tryz.prog 69 #[v, .string s] w (ApOut base v xs (Nm.putT s.data.toList) w) := by
  unfold ApOut
  obtain ⟨i0, hi, hz0, hz1, hz2⟩ := info_of' info_u8
  obtain ⟨a, c, rfl⟩ := own_len hown
  have hp := putT_any s w hn
  have hpl : (Nm.putT s.data.toList).length ≤ 2050 := by have := Nm.putT_length s.data.toList; rw [← Lib.size_eq] at this; omega
  obtain ⟨S, hS⟩ : ∃ S : ByteArray, (⟨(Nm.putT s.data.toList).toArray⟩ : ByteArray) = S := ⟨_, rfl⟩
  have HS : Hid (Lib.strCells S = (Nm.putT s.data.toList).map B ∧ S.size = (Nm.putT s.data.toList).length) := by rw [← hS]; exact ⟨rfl, by show (Nm.putT s.data.toList).toArray.size = _; rw [List.size_toArray]⟩
  have hSz : S.size ≤ 2050 := by rw [HS.out.2]; exact hpl
  rw [hS] at hp
  clear hS hpl
  generalize Nm.putT s.data.toList = Y at *
  go_enter Tryz.func69, Tryz.ntmps69
  go_wp2_with fail
  refine hp.mono ?_
  rintro e w1 ⟨rfl, hb1⟩
  have hown1 := own_below hown hb1
  have hB1 : Below base w w1 := hb1.mono hb
  have hs1 := hB1.size
  have HK1 : Hid (Kept (fun k => (Value.slice a xs.length c).ownBlock ≠ some k) w w1) := Kept.of_below hb1
  clear hp hb1 hown
  go_wp2_with (at_builtin; refine Lib.wpList_append_own_string _ rfl (.tmp 12) (.tmp 13) 89 9 rfl base 5 i0 Tryz.underlying89 Tryz.underlying9 hi hz0 hz1 hz2 _ _ _ rfl hown1 S rfl ?c3 ?c4 ?c5 ?_)
  case c3 => unfold maxLen; omega
  case c4 => omega
  case c5 => omega
  intro v1 w3 hown3 hgrow _
  have HO : Hid (w3.ownsRow base 5 1 v1 (xs ++ Y).length ((xs ++ Y).map B)) := by
    rw [HS.out.1, HS.out.2] at hown3
    rw [List.length_append, List.map_append]
    exact hown3
  have HB3 : Hid (Below base w w3) := hB1.grown hgrow (by omega) fun j hj => (hown1.lt j hj).1
  have HK3 : Hid (Kept (fun k => (Value.slice a xs.length c).ownBlock ≠ some k) w w3) := HK1.out.grown hgrow fun k hk hp => hp hk
  clear hown3 hgrow hown1 hB1
  go_wp2_with fail
  go_ret
  exact ⟨_, rfl, HO.out, HB3.out, HK3.out⟩

/-- a node's cells in block b, bytes S of one's own, older blocks as they were -/
structure Tw (w0 w W : World) (b : Nat) (cs : Array Value) (v : Value) (S : List UInt8) : Prop where
  node : W.heap[b]? = some (.cells cs 80 (0, 0))
  own : W.ownsRow w0.heap.size 5 1 v S.length (S.map B)
  bel : Below w0.heap.size w W
  size : w0.heap.size ≤ W.heap.size

section
variable {w0 w W W' : World} {b : Nat} {cs : Array Value} {v v' : Value} {S Y : List UInt8} {e : Ending}
theorem Tw.ap (h : Tw w0 w W b cs v S) (ho : W'.ownsRow w0.heap.size 5 1 v' (S ++ Y).length ((S ++ Y).map B)) (hb : Below w0.heap.size W W') (hk : Kept (fun k => v.ownBlock ≠ some k) W W') : Tw w0 w W' b cs v' (S ++ Y) :=
  ⟨hk.obj (tg_apart h.own h.node (by decide)) h.node, ho, h.bel.trans hb, Nat.le_trans h.size hb.size⟩

theorem Tw.past (h : Tw w0 w W b cs v S) (hb : Below W.heap.size W W') : Tw w0 w W' b cs v S :=
  ⟨(hb.block _ (Array.getElem?_eq_some_iff.1 h.node).1).trans h.node, own_below h.own hb, h.bel.trans (hb.mono h.size), Nat.le_trans h.size hb.size⟩

theorem Tw.grow {xs : List Value} {n : Nat} (h : Tw w0 w W b cs v S) (hg : W.grownBy W' v.ownBlock) (ho : W'.ownsRow w0.heap.size 5 1 v' n xs) (hn : n = (S ++ Y).length) (hx : xs = (S ++ Y).map B) : Tw w0 w W' b cs v' (S ++ Y) := by
  subst hn hx
  exact ⟨(hg.block _ (Array.getElem?_eq_some_iff.1 h.node).1 (fun e => tg_apart h.own h.node (by decide) e.symm)).trans h.node, ho, h.bel.grown hg h.size fun j hj => (h.own.lt j hj).1, Nat.le_trans h.size hg.size⟩

end

theorem flat_more {l : List (List UInt8)} {k : Nat} (h : k < l.length) : (l.take (k + 1)).flatten = (l.take k).flatten ++ l[k] := by
  rw [List.take_succ_eq_append_getElem h, List.flatten_append, List.flatten_cons, List.flatten_nil, List.append_nil]

theorem tg_eight {t : List UInt8} (h : t.length = 8) : ∃ b0 b1 b2 b3 b4 b5 b6 b7, t = [b0, b1, b2, b3, b4, b5, b6, b7] := by
  match t, h with
  | [b0, b1, b2, b3, b4, b5, b6, b7], _ => exact ⟨b0, b1, b2, b3, b4, b5, b6, b7, rfl⟩

/-- what appendNode answers -/
def AnOut (w0 w : World) (S : List UInt8) (e : Ending) (w' : World) : Prop := ∃ v', e = .returned v' ∧ w'.ownsRow w0.heap.size 5 1 v' S.length (S.map B) ∧ Below w0.heap.size w w'

set_option maxHeartbeats 8000000 in
set_option maxRecDepth 10000 in
theorem tnode_any (w0 w : World) (v : Value) (xs : List UInt8) (name link : ByteArray) (kd md sz : Nat) (time : Int) (parts : List (List UInt8)) (a : Option Addr) (c np : Nat)
    (hB : Below w0.heap.size w0 w) (hown : w.ownsRow w0.heap.size 5 1 v xs.length (xs.map B)) (hx : xs.length ≤ 524288) (hnp : np = parts.length)
    (hP : Rx 8 idC w0 (.slice a np c) parts) (h8 : ∀ p ∈ parts, p.length = 8) (hn : name.size ≤ 1024) (hl : link.size ≤ 1024) (hk : kd ≤ 3) (hm : md ≤ 511) (hz : sz ≤ 4096) (hp : np ≤ 300)
    (ht0 : -9223372036854775808 ≤ time) (ht1 : time ≤ 9223372036854775807) :
    Calls Tryz.prog 54 #[v, .agg #[.string name, .int .i64 (kd : Nat), .int .i64 (md : Nat), .int .i64 time, .int .i64 (sz : Nat), .slice a np c, .string link]] w
      (AnOut w0 w (xs ++ Td.rowT ⟨name.data.toList, (kd : Nat), (md : Nat), time, (sz : Nat), parts, link.data.toList⟩)) := by
  unfold AnOut
  obtain ⟨i0, hi, hz0, hz1, hz2⟩ := info_of' info_u8
  have HRow : Hid (xs ++ Td.rowT ⟨name.data.toList, (kd : Nat), (md : Nat), time, (sz : Nat), parts, link.data.toList⟩ = (((((((xs ++ Nm.putT name.data.toList) ++ [UInt8.ofNat kd]) ++ Nm.put md) ++ Nm.putI time) ++ Nm.put sz) ++ Nm.put np) ++ parts.flatten) ++ Nm.putT link.data.toList) := by
    show _ = _
    rw [hnp]
    simp [Td.rowT]
  generalize xs ++ Td.rowT ⟨name.data.toList, (kd : Nat), (md : Nat), time, (sz : Nat), parts, link.data.toList⟩ = RES at *
  have HPt : Hid (Rx 8 idC w0 (.slice a np c) parts ∧ (∀ p ∈ parts, p.length = 8) ∧ np = parts.length ∧ Below w0.heap.size w0 w) := ⟨hP, h8, hnp, hB⟩
  obtain ⟨av, cv, rfl⟩ := own_len hown
  obtain ⟨W1, hW1⟩ : ∃ W1, W1 = w.alloc (.cells #[.string name, .int .i64 (kd : Nat), .int .i64 (md : Nat), .int .i64 time, .int .i64 (sz : Nat), .slice a np c, .string link] 80) := ⟨_, rfl⟩
  have HW1 : Hid (Tw w0 w W1 w.heap.size #[.string name, .int .i64 (kd : Nat), .int .i64 (md : Nat), .int .i64 time, .int .i64 (sz : Nat), .slice a np c, .string link] (.slice av xs.length cv) xs) := by
    have hb1 : Below w.heap.size w W1 := by rw [hW1]; exact (Below.refl _ w).alloc (Nat.le_refl _) _
    exact ⟨by rw [hW1]; exact heap_alloc_new w _, own_below hown hb1, hb1.mono hB.size, Nat.le_trans hB.size hb1.size⟩
  have htx := fun V s Z W (h1 : W.ownsRow w0.heap.size 5 1 V Z.length (Z.map B)) h2 h3 h4 => ttext_any w0.heap.size V Z s W h1 h2 h3 h4
  have hnu := fun V n Z W (h1 : W.ownsRow w0.heap.size 5 1 V Z.length (Z.map B)) h2 h3 h4 => tnum_any w0.heap.size V Z n W h1 h2 h3 h4
  have hpi := fun W => putI_any time W ht0 ht1
  unfold ApOut at htx hnu
  have hy1 : (Nm.putT name.data.toList).length ≤ 2050 := by have := Nm.putT_length name.data.toList; rw [← Lib.size_eq] at this; omega
  have HY1 : Hid ((Nm.putT link.data.toList).length ≤ 2050) := by have := Nm.putT_length link.data.toList; rw [← Lib.size_eq] at this; show _ ≤ _; omega
  have hy3 := tput9 md
  have hy4 := Nm.putI_length time
  have hy5 := tput9 sz
  have hy6 := tput9 np
  clear hB hown hP h8 hnp
  go_enter Tryz.func54, Tryz.ntmps54
  go_upto_region 1 with fail
  rw [← hW1]
  obtain ⟨b, hb⟩ : ∃ b, b = w.heap.size := ⟨_, rfl⟩
  rw [← hb] at HW1 ⊢
  clear hW1 hb
  obtain ⟨m0, _⟩ := seven_at HW1.out.node
  go_upto_region 2 with (go_at_call 69; refine (htx _ name xs _ HW1.out.own HW1.out.size (by omega) hn).mono ?_; rintro e w2 ⟨v2, rfl, o2, b2, k2⟩)
  have HW2 : Hid (Tw w0 w w2 b #[.string name, .int .i64 (kd : Nat), .int .i64 (md : Nat), .int .i64 time, .int .i64 (sz : Nat), .slice a np c, .string link] v2 (xs ++ Nm.putT name.data.toList)) := HW1.out.ap o2 b2 k2
  clear o2 b2 k2 HW1 m0
  obtain ⟨S1, hS1⟩ : ∃ S1, xs ++ Nm.putT name.data.toList = S1 := ⟨_, rfl⟩
  have hl1 : S1.length ≤ 526400 := by rw [← hS1, List.length_append]; omega
  rw [hS1] at HW2 HRow
  clear hS1 hy1
  obtain ⟨s2, c2, rfl⟩ := own_len HW2.out.own
  -- the kind
  obtain ⟨_, m1, _⟩ := seven_at HW2.out.node
  have hwk : IntKind.u8.wrap (kd : Int) = (kd : Int) := by simp [IntKind.wrap, IntKind.bits, IntKind.signed]; omega
  obtain ⟨W3, hW3⟩ : ∃ W3, W3 = w2.alloc (.cells #[.int .u8 (kd : Int)] 5) := ⟨_, rfl⟩
  have HW3 : Hid (Tw w0 w W3 b #[.string name, .int .i64 (kd : Nat), .int .i64 (md : Nat), .int .i64 time, .int .i64 (sz : Nat), .slice a np c, .string link] (.slice s2 S1.length c2) S1) := by rw [hW3]; exact HW2.out.past ((Below.refl _ w2).alloc (Nat.le_refl _) _)
  have hnews : ∀ j u, ([.int .u8 (kd : Int)] : List Value)[j]? = some u → W3.cell? ((⟨w2.heap.size, 0, none⟩ : Addr).add j) = some u := fun j u hu => by
    rw [hW3, show ((⟨w2.heap.size, 0, none⟩ : Addr).add j) = ⟨w2.heap.size, 0 + j, none⟩ from Addr.add_mid _ _ _, Nat.zero_add, cell_of_row _ w2.heap.size j _ _ _ (heap_alloc_new w2 _)]
    simpa using hu
  have hown3 := HW3.out.own
  have hsz3 := HW3.out.size
  have HM3 : Hid (S1.map B ++ [.int .u8 (kd : Int)] = (S1 ++ [UInt8.ofNat kd]).map B) := by
    show _ = _
    rw [List.map_append]
    congr 1
    show _ = [B (UInt8.ofNat kd)]
    unfold B
    rw [UInt8.toNat_ofNat', Nat.mod_eq_of_lt (by omega)]
  clear HW2
  go_wp2_with (at_builtin; rw [← hW3]; refine wpList_append_own _ rfl (.tmp 11) (.tmp 15) 89 rfl w0.heap.size 5 i0 (.int .u8 0) 1 1 Tryz.underlying89 hi hz0 hz1 hz2 rfl (by decide) _ _ _ rfl hown3 ⟨w2.heap.size, 0, none⟩ 1 1 [.int .u8 (kd : Int)] rfl rfl hnews ?c2 ?c3 ?c4 ?c5 ?_)
  case c2 => intro u hu; rw [List.mem_singleton.1 hu]; rfl
  case c3 => unfold maxLen; omega
  case c4 => omega
  case c5 => exact hsz3
  intro v4 w4 o4 hgrow4 _
  rw [← hW3] at hgrow4
  have HW4 : Hid (Tw w0 w w4 b #[.string name, .int .i64 (kd : Nat), .int .i64 (md : Nat), .int .i64 time, .int .i64 (sz : Nat), .slice a np c, .string link] v4 (S1 ++ [UInt8.ofNat kd])) := HW3.out.grow hgrow4 o4 (by simp) HM3.out
  clear o4 hgrow4 hown3 HW3 hnews hsz3 hW3 m1 HM3 hwk
  obtain ⟨S2, hS2⟩ : ∃ S2, S1 ++ [UInt8.ofNat kd] = S2 := ⟨_, rfl⟩
  have hl2 : S2.length ≤ 526401 := by rw [← hS2, List.length_append, List.length_singleton]; omega
  rw [hS2] at HW4 HRow
  clear hS2
  obtain ⟨s4, c4, rfl⟩ := own_len HW4.out.own
  go_upto_region 3 with fail
  obtain ⟨_, _, m2, _⟩ := seven_at HW4.out.node
  go_upto_region 4 with (go_at_call 53; refine (hnu _ md S2 _ HW4.out.own HW4.out.size (by omega) (by omega)).mono ?_; rintro e w5 ⟨v5, rfl, o5, b5, k5⟩)
  have HW5 : Hid (Tw w0 w w5 b #[.string name, .int .i64 (kd : Nat), .int .i64 (md : Nat), .int .i64 time, .int .i64 (sz : Nat), .slice a np c, .string link] v5 (S2 ++ Nm.put md)) := HW4.out.ap o5 b5 k5
  clear o5 b5 k5 HW4 m2
  obtain ⟨S3, hS3⟩ : ∃ S3, S2 ++ Nm.put md = S3 := ⟨_, rfl⟩
  have hlS3 : S3.length ≤ 526410 := by rw [← hS3, List.length_append]; omega
  rw [hS3] at HW5 HRow
  clear hS3 hy3
  obtain ⟨s5, c5, rfl⟩ := own_len HW5.out.own
  obtain ⟨_, _, _, m3, _⟩ := seven_at HW5.out.node
  obtain ⟨S, hS⟩ : ∃ S : ByteArray, (⟨(Nm.putI time).toArray⟩ : ByteArray) = S := ⟨_, rfl⟩
  have HS : Hid (Lib.strCells S = (Nm.putI time).map B ∧ S.size = (Nm.putI time).length) := by rw [← hS]; exact ⟨rfl, by show (Nm.putI time).toArray.size = _; rw [List.size_toArray]⟩
  have hSz : S.size ≤ 9 := by rw [HS.out.2]; exact hy4
  rw [hS] at hpi
  clear hS
  go_wp2_with fail
  refine (hpi _).mono ?_
  rintro e w6 ⟨rfl, b6⟩
  have HW6 : Hid (Tw w0 w w6 b #[.string name, .int .i64 (kd : Nat), .int .i64 (md : Nat), .int .i64 time, .int .i64 (sz : Nat), .slice a np c, .string link] (.slice s5 S3.length c5) S3) := HW5.out.past b6
  have hown6 := HW6.out.own
  have hsz6 := HW6.out.size
  clear b6 HW5 hpi m3
  go_wp2_with (at_builtin; refine Lib.wpList_append_own_string _ rfl (.tmp 21) (.tmp 24) 89 9 rfl w0.heap.size 5 i0 Tryz.underlying89 Tryz.underlying9 hi hz0 hz1 hz2 _ _ _ rfl hown6 S rfl ?d3 ?d4 ?d5 ?_)
  case d3 => unfold maxLen; omega
  case d4 => omega
  case d5 => exact hsz6
  intro v7 w7 o7 hgrow7 _
  have HW7 : Hid (Tw w0 w w7 b #[.string name, .int .i64 (kd : Nat), .int .i64 (md : Nat), .int .i64 time, .int .i64 (sz : Nat), .slice a np c, .string link] v7 (S3 ++ Nm.putI time)) := HW6.out.grow hgrow7 o7 (by rw [List.length_append, HS.out.2]) (by rw [List.map_append, HS.out.1])
  clear o7 hgrow7 hown6 hsz6 HW6 HS hSz
  obtain ⟨S4, hS4⟩ : ∃ S4, S3 ++ Nm.putI time = S4 := ⟨_, rfl⟩
  have hl4 : S4.length ≤ 526420 := by rw [← hS4, List.length_append]; omega
  rw [hS4] at HW7 HRow
  clear hS4 hy4
  obtain ⟨s7, c7, rfl⟩ := own_len HW7.out.own
  go_upto_region 5 with fail
  obtain ⟨_, _, _, _, m4, _⟩ := seven_at HW7.out.node
  go_upto_region 6 with (go_at_call 53; refine (hnu _ sz S4 _ HW7.out.own HW7.out.size (by omega) (by omega)).mono ?_; rintro e w8 ⟨v8, rfl, o8, b8, k8⟩)
  have HW8 : Hid (Tw w0 w w8 b #[.string name, .int .i64 (kd : Nat), .int .i64 (md : Nat), .int .i64 time, .int .i64 (sz : Nat), .slice a np c, .string link] v8 (S4 ++ Nm.put sz)) := HW7.out.ap o8 b8 k8
  clear o8 b8 k8 HW7 m4
  obtain ⟨S5, hS5⟩ : ∃ S5, S4 ++ Nm.put sz = S5 := ⟨_, rfl⟩
  have hlS5 : S5.length ≤ 526430 := by rw [← hS5, List.length_append]; omega
  rw [hS5] at HW8 HRow
  clear hS5 hy5
  obtain ⟨s8, c8, rfl⟩ := own_len HW8.out.own
  obtain ⟨_, _, _, _, _, m5, _⟩ := seven_at HW8.out.node
  go_upto_region 7 with (go_at_call 53; refine (hnu _ np S5 _ HW8.out.own HW8.out.size (by omega) (by omega)).mono ?_; rintro e w9 ⟨v9, rfl, o9, b9, k9⟩)
  have HW9 : Hid (Tw w0 w w9 b #[.string name, .int .i64 (kd : Nat), .int .i64 (md : Nat), .int .i64 time, .int .i64 (sz : Nat), .slice a np c, .string link] v9 (S5 ++ Nm.put np)) := HW8.out.ap o9 b9 k9
  clear o9 b9 k9 HW8 m5
  obtain ⟨S6, hS6⟩ : ∃ S6, S5 ++ Nm.put np = S6 := ⟨_, rfl⟩
  have hlS6 : S6.length ≤ 526440 := by rw [← hS6, List.length_append]; omega
  rw [hS6] at HW9 HRow
  clear hS6 hy6
  obtain ⟨s9, c9, rfl⟩ := own_len HW9.out.own
  obtain ⟨_, _, _, _, _, m5, _⟩ := seven_at HW9.out.node
  have HW9' : Hid (Tw w0 w w9 b #[.string name, .int .i64 (kd : Nat), .int .i64 (md : Nat), .int .i64 time, .int .i64 (sz : Nat), .slice a np c, .string link] (.slice s9 S6.length c9) (S6 ++ (parts.take 0).flatten)) := by
    show Tw _ _ _ _ _ _ _
    rw [List.take_zero, List.flatten_nil, List.append_nil]
    exact HW9.out
  have HFl : Hid (∀ k, k ≤ np → (parts.take k).flatten.length = 8 * k) := fun k hk => by
    rw [Td.flat8 fun p hp => HPt.out.2.1 p (List.mem_of_mem_take hp), List.length_take]
    have := HPt.out.2.2.1
    omega
  clear hnu HW9
  go_wp2_with fail
  clear m5
  go_loopw [0, 38] (fun vo i wr => ∃ k : Nat, k ≤ np ∧ i = .int .i64 k ∧ Hid (Tw w0 w wr b #[.string name, .int .i64 (kd : Nat), .int .i64 (md : Nat), .int .i64 time, .int .i64 (sz : Nat), .slice a np c, .string link] vo (S6 ++ (parts.take k).flatten))) (fun _ i _ => np - (intOf i).toNat)
  case atStart => exact ⟨0, by omega, rfl, HW9'⟩
  case round =>
    clear HW9'
    obtain ⟨k, hk, rfl, HW⟩ := hrel
    have hfl := HFl.out k hk
    obtain ⟨S, hS⟩ : ∃ S, S6 ++ (parts.take k).flatten = S := ⟨_, rfl⟩
    have hSl : S.length ≤ 526440 + 8 * k := by rw [← hS, List.length_append, hfl]; omega
    have HSk : Hid (S6 ++ (parts.take k).flatten = S) := hS
    rw [hS] at HW
    clear hfl hS
    obtain ⟨so, co, hvo⟩ := own_len HW.out.own
    subst hvo
    by_cases hlt : k < np
    · have hkl : k < parts.length := by rw [← HPt.out.2.2.1]; exact hlt
      obtain ⟨bk, o, rfl, hbk, hcell⟩ := (HPt.out.1.below (HPt.out.2.2.2.trans HW.out.bel)).get k parts[k] (List.getElem?_eq_getElem hkl)
      obtain ⟨b0, b1, b2, b3, b4, b5, b6, b7, ht8⟩ := tg_eight (HPt.out.2.1 parts[k] (List.getElem_mem hkl))
      have HM : Hid (S6 ++ (parts.take (k + 1)).flatten = S ++ [b0, b1, b2, b3, b4, b5, b6, b7]) := by show _ = _; rw [flat_more hkl, ← List.append_assoc, HSk.out, ht8]
      rw [ht8] at hcell
      have x0 : wr.cell? ⟨bk, o + k * 8, none⟩ = some (.int .u8 (b0.toNat : Int)) := hcell 0 _ rfl
      have x1 : wr.cell? ⟨bk, o + k * 8 + 1, none⟩ = some (.int .u8 (b1.toNat : Int)) := hcell 1 _ rfl
      have x2 : wr.cell? ⟨bk, o + k * 8 + 2, none⟩ = some (.int .u8 (b2.toNat : Int)) := hcell 2 _ rfl
      have x3 : wr.cell? ⟨bk, o + k * 8 + 3, none⟩ = some (.int .u8 (b3.toNat : Int)) := hcell 3 _ rfl
      have x4 : wr.cell? ⟨bk, o + k * 8 + 4, none⟩ = some (.int .u8 (b4.toNat : Int)) := hcell 4 _ rfl
      have x5 : wr.cell? ⟨bk, o + k * 8 + 5, none⟩ = some (.int .u8 (b5.toNat : Int)) := hcell 5 _ rfl
      have x6 : wr.cell? ⟨bk, o + k * 8 + 6, none⟩ = some (.int .u8 (b6.toNat : Int)) := hcell 6 _ rfl
      have x7 : wr.cell? ⟨bk, o + k * 8 + 7, none⟩ = some (.int .u8 (b7.toNat : Int)) := hcell 7 _ rfl
      clear hcell ht8 HSk
      obtain ⟨W5, hW5⟩ : ∃ W5, W5 = wr.alloc (.cells #[.int .u8 (b0.toNat : Int), .int .u8 (b1.toNat : Int), .int .u8 (b2.toNat : Int), .int .u8 (b3.toNat : Int), .int .u8 (b4.toNat : Int), .int .u8 (b5.toNat : Int), .int .u8 (b6.toNat : Int), .int .u8 (b7.toNat : Int)] 30) := ⟨_, rfl⟩
      have HW5 : Hid (Tw w0 w W5 b #[.string name, .int .i64 (kd : Nat), .int .i64 (md : Nat), .int .i64 time, .int .i64 (sz : Nat), .slice (some ⟨bk, o, none⟩) np c, .string link] (.slice so S.length co) S) := by rw [hW5]; exact HW.out.past ((Below.refl _ wr).alloc (Nat.le_refl _) _)
      have hnews : ∀ j u, ([b0, b1, b2, b3, b4, b5, b6, b7].map B)[j]? = some u → W5.cell? ((⟨wr.heap.size, 0, none⟩ : Addr).add j) = some u := fun j u hu => by
        rw [hW5, show ((⟨wr.heap.size, 0, none⟩ : Addr).add j) = ⟨wr.heap.size, 0 + j, none⟩ from Addr.add_mid _ _ _, Nat.zero_add, cell_of_row _ wr.heap.size j _ _ _ (heap_alloc_new wr _)]
        match j, hu with
        | 0, hu => exact hu
        | 1, hu => exact hu
        | 2, hu => exact hu
        | 3, hu => exact hu
        | 4, hu => exact hu
        | 5, hu => exact hu
        | 6, hu => exact hu
        | 7, hu => exact hu
        | n + 8, hu => simp at hu
      have hown5 := HW5.out.own
      have hsz5 := HW5.out.size
      clear HW
      go_upto_region 10 with fail
      rw [← hW5]
      clear hW5 x0 x1 x2 x3 x4 x5 x6 x7
      go_wp2_with (at_builtin; refine wpList_append_own _ rfl (.tmp 42) (.tmp 43) 89 rfl w0.heap.size 5 i0 (.int .u8 0) 1 1 Tryz.underlying89 hi hz0 hz1 hz2 rfl (by decide) _ _ _ rfl hown5 ⟨wr.heap.size, 0, none⟩ 8 8 ([b0, b1, b2, b3, b4, b5, b6, b7].map B) rfl rfl hnews ?e2 ?e3 ?e4 ?e5 ?_)
      case e2 => intro u hu; obtain ⟨x, _, rfl⟩ := List.mem_map.1 hu; rfl
      case e3 => unfold maxLen; omega
      case e4 => omega
      case e5 => exact hsz5
      intro v8 w8 o8 hgrow8 _
      have HW8 : Hid (Tw w0 w w8 b #[.string name, .int .i64 (kd : Nat), .int .i64 (md : Nat), .int .i64 time, .int .i64 (sz : Nat), .slice (some ⟨bk, o, none⟩) np c, .string link] v8 (S6 ++ (parts.take (k + 1)).flatten)) := by
        rw [HM.out]
        exact HW5.out.grow hgrow8 o8 (by simp) (by rw [List.map_append]; rfl)
      clear o8 hgrow8 hown5 HW5 hnews hsz5 HM
      go_wp2_with fail
      go_roundw
      case rel => exact ⟨k + 1, by omega, by go_num, HW8⟩
      case measure => simp only [intOf]; omega
    · have hke : parts.take k = parts := List.take_of_length_le (by have := HPt.out.2.2.1; omega)
      rw [hke] at HSk
      rw [HSk.out] at HRow
      obtain ⟨_, _, _, _, _, _, m6⟩ := seven_at HW.out.node
      have hb6 : S.length ≤ 1048576 := by omega
      clear hke HSk
      go_wp2_with (go_at_call 69; refine (htx _ link S _ HW.out.own HW.out.size hb6 hl).mono ?_; rintro e w12 ⟨v12, rfl, o12, b12, k12⟩)
      have HO : Hid (w12.ownsRow w0.heap.size 5 1 v12 RES.length (RES.map B)) := by rw [HRow.out]; exact o12
      have HB : Hid (Below w0.heap.size w w12) := HW.out.bel.trans b12
      go_ret
      exact ⟨_, rfl, HO.out, HB.out⟩

theorem trows_more (l : List Nod) (k : Nat) (h : k < l.length) : Td.rowsT (nds (l.take (k + 1))) = Td.rowsT (nds (l.take k)) ++ Td.rowT l[k].nd := by
  rw [List.take_succ_eq_append_getElem h]
  simp only [nds, Td.rowsT, List.map_append, List.map_cons, List.map_nil, List.flatten_append, List.flatten_cons, List.flatten_nil, List.append_nil]

theorem trow_len {n : Nod} (h : Td.nErr n.nd = 0) (h8 : ∀ p ∈ n.parts, p.length = 8) : (Td.rowT n.nd).length ≤ 6600 := by
  obtain ⟨q0, q1, q2, q3, q4, q5, q6, q7, q8⟩ := Td.nErr_ok h
  have a1 := Nm.putT_length n.nd.name
  have a2 := Nn.nm_long q0
  have a3 := Nm.putT_length n.nd.link
  have a4 := tput9 n.nd.mode.toNat
  have a5 := tput9 n.nd.size.toNat
  have a6 := tput9 n.nd.parts.length
  have a7 := Nm.putI_length n.nd.time
  have a8 : n.nd.parts.flatten.length = 8 * n.nd.parts.length := Td.flat8 h8
  unfold Td.rowT
  simp only [List.length_append, List.length_cons]
  omega

set_option maxHeartbeats 4000000 in
set_option maxRecDepth 10000 in
theorem twrite_any (v : Value) (l : List Nod) (w : World) (h : Nds w v l) (hl : l.length ≤ 9223372036854775807) (hT : Tabs w) :
    Calls Tryz.prog 34 #[v] w fun e w' => e = .returned (.tuple #[.string ⟨(Td.write (nds l)).1.toArray⟩, .int .i64 (Td.write (nds l)).2]) ∧ Below w.heap.size w w' := by
  obtain ⟨a, c, rfl⟩ := h.slice
  have hno := tcheck_any _ l w h hl hT
  have HX : Hid (Nds w (.slice a l.length c) l) := h
  have HZ : Hid (Td.write (nds l) = if Td.check (nds l) ≠ 0 then ([], Td.check (nds l)) else if 4096 < (Td.textB (nds l)).length then ([], 2) else (Td.textB (nds l), 0)) := rfl
  have HC : Hid (Td.check (nds l) = 0 → l.length ≤ 64 ∧ ∀ n ∈ l, Td.nErr n.nd = 0) := fun q => by
    obtain ⟨c1, c2⟩ := Td.check_ok q
    rw [nds_length] at c1
    exact ⟨c1, fun n hn => c2 _ (List.mem_map_of_mem hn)⟩
  have HTx : Hid (Td.textB (nds l) = Nm.put l.length ++ Td.rowsT (nds l)) := by show _ = _; rw [Td.textB, nds_length]
  generalize Td.write (nds l) = Z at *
  generalize Td.check (nds l) = E at *
  generalize Td.textB (nds l) = TX at *
  obtain ⟨N, hN⟩ : ∃ N, N = l.length := ⟨_, rfl⟩
  have HN : Hid (N = l.length) := hN
  rw [← hN] at HX HC HTx hl hno ⊢
  clear h hT hN
  go_enter Tryz.func34, Tryz.ntmps34
  go_wp2_with fail
  refine hno.mono ?_
  rintro e w1 ⟨rfl, b1⟩
  have HB1 : Hid (Below w.heap.size w w1) := b1
  clear hno b1
  by_cases hE : E ≠ 0
  · have hqn : (E != 0) = true := by rw [bne_iff_ne]; exact hE
    have HR : Hid (Z = ([], E)) := by
      have := HZ.out
      rwa [if_pos hE] at this
    clear HZ HC HTx
    go_wp2_with fail
    go_ret2
    exact ⟨by rw [HR.out]; rfl, HB1.out⟩
  obtain rfl := Decidable.not_not.mp hE
  clear hE
  obtain ⟨h64, hok⟩ := HC.out rfl
  have HOk : Hid (∀ n ∈ l, Td.nErr n.nd = 0) := hok
  have HZ1 : Hid (Z = if 4096 < TX.length then ([], 2) else (TX, 0)) := by
    have := HZ.out
    rwa [if_neg (by simp)] at this
  have hpn := tnum_any w.heap.size (.slice none 0 0) [] N w1 (World.ownsRow_nil _ _ _ _) HB1.out.size (by simp) (by omega)
  unfold ApOut at hpn
  rw [List.nil_append] at hpn
  obtain ⟨P0, hP0⟩ : ∃ P0, P0 = Nm.put N := ⟨_, rfl⟩
  have HP9 : Hid (P0.length ≤ 9) := by show _ ≤ _; rw [hP0]; exact tput9 _
  rw [← hP0] at hpn HTx
  clear hok HC HZ hP0
  go_wp2_with fail
  refine hpn.mono ?_
  rintro e w2 ⟨v2, rfl, o2, b2, _⟩
  have HB2 : Hid (Below w.heap.size w w2) := HB1.out.trans b2
  have HO2 : Hid (w2.ownsRow w.heap.size 5 1 v2 P0.length (P0.map B)) := o2
  clear hpn b2 HB1 o2
  go_wp2_with fail
  go_loopw [5, 18] (fun x i wr => ∃ (k : Nat) (L : List UInt8), k ≤ N ∧ i = .int .i64 k ∧ L.length ≤ 9 + 6600 * k ∧ Hid (wr.ownsRow w.heap.size 5 1 x L.length (L.map B)) ∧ Hid (P0 ++ Td.rowsT (nds (l.take k)) = L) ∧ Hid (Below w.heap.size w wr)) (fun _ i _ => N - (intOf i).toNat)
  case atStart => exact ⟨0, P0, by omega, rfl, by have := HP9.out; omega, HO2, List.append_nil _, HB2⟩
  case round =>
    clear HB2 HO2
    obtain ⟨k, L, hk, rfl, hLl, HO, HL, HB⟩ := hrel
    obtain ⟨so, co, hvo⟩ := own_len HO.out
    subst hvo
    by_cases hlt : k < N
    · have hkl : k < l.length := by rw [← HN.out]; exact hlt
      obtain ⟨bk, o, cs, rfl, hbk, hcl, ⟨v, rfl, hPs, hnk⟩, hcell⟩ := (HX.out.below HB.out).get k l[k] (List.getElem?_eq_getElem hkl)
      have HPw : Hid (Rx 8 idC w v l[k].parts) := by
        obtain ⟨bk', o', cs', e', _, _, ⟨v', rfl, q, _⟩, hc'⟩ := HX.out.get k l[k] (List.getElem?_eq_getElem hkl)
        cases e'
        have e1 := hcell 5 _ rfl
        have e2 := (Below.cell HB.out (p := ⟨bk, o + k * 7 + 5, none⟩) (World.block_lt_of_cell? w _ (hc' 5 _ rfl))).trans (hc' 5 _ rfl)
        rw [e1, Option.some.injEq] at e2
        rw [e2]
        exact q
      have HRw : Hid (Td.rowsT (nds (l.take (k + 1))) = Td.rowsT (nds (l.take k)) ++ Td.rowT l[k].nd) := trows_more l k hkl
      have HRl : Hid ((Td.rowT l[k].nd).length ≤ 6600) := trow_len (HOk.out _ (List.getElem_mem hkl)) hnk.ids
      obtain ⟨q0, q1, q2, q3, q4, q5, q6, q7, q8⟩ := Td.nErr_ok (HOk.out _ (List.getElem_mem hkl))
      have q9 := Nn.nm_long q0
      obtain ⟨av, cv, rfl, _⟩ := hPs.slice
      have htm := hnk.time
      have h8 := hnk.ids
      have c0 : wr.cell? ⟨bk, o + k * 7, none⟩ = some (.string l[k].name) := hcell 0 _ rfl
      have c1 := hcell 1 _ rfl
      have c2 := hcell 2 _ rfl
      have c3 := hcell 3 _ rfl
      have c4 := hcell 4 _ rfl
      have c5 := hcell 5 _ rfl
      have c6 := hcell 6 _ rfl
      generalize l[k] = n at *
      obtain ⟨name, kind, mode, time, size, parts, link⟩ := n
      dsimp only [Nod.nd] at *
      obtain ⟨kd, rfl⟩ := Int.eq_ofNat_of_zero_le (a := kind) (by omega)
      obtain ⟨md, rfl⟩ := Int.eq_ofNat_of_zero_le q1
      obtain ⟨sz, rfl⟩ := Int.eq_ofNat_of_zero_le q3
      obtain ⟨np, hnp⟩ : ∃ np, np = parts.length := ⟨_, rfl⟩
      rw [← hnp] at HPw q5 c5
      simp [Lit.wf, IntKind.min, IntKind.max, IntKind.signed, IntKind.bits] at htm
      obtain ⟨W1, hW1⟩ : ∃ W1, W1 = wr.alloc (.cells #[.string name, .int .i64 (kd : Nat), .int .i64 (md : Nat), .int .i64 time, .int .i64 (sz : Nat), .slice av np cv, .string link] 80) := ⟨_, rfl⟩
      have hB1 : Below wr.heap.size wr W1 := by rw [hW1]; exact (Below.refl _ wr).alloc (Nat.le_refl _) _
      have HM1 : Hid (W1.heap[wr.heap.size]? = some (.cells #[.string name, .int .i64 (kd : Nat), .int .i64 (md : Nat), .int .i64 time, .int .i64 (sz : Nat), .slice av np cv, .string link] 80 (0, 0))) := by rw [hW1]; exact heap_alloc_new wr _
      have HB1 : Hid (Below w.heap.size w W1) := HB.out.trans (hB1.mono HB.out.size)
      have han := tnode_any w W1 (.slice so L.length co) L name link kd md sz time parts av cv np HB1.out (own_below HO.out hB1) (by omega) hnp HPw.out h8 (by rw [Lib.size_eq]; omega) (by rw [Lib.size_eq]; exact q8) (by omega) (by omega) (by omega) q5 htm.1 htm.2
      unfold AnOut at han
      obtain ⟨L2, hL2⟩ : ∃ L2, L ++ Td.rowT ⟨name.data.toList, (kd : Nat), (md : Nat), time, (sz : Nat), parts, link.data.toList⟩ = L2 := ⟨_, rfl⟩
      have hL2l : L2.length ≤ 9 + 6600 * (k + 1) := by have := HRl.out; rw [← hL2, List.length_append]; omega
      have HL2 : Hid (P0 ++ Td.rowsT (nds (l.take (k + 1))) = L2) := by show _ = _; rw [HRw.out, ← List.append_assoc, HL.out, hL2]
      rw [hL2] at han
      clear hcell hPs hnk hcl hB1 hnp q0 q6 hL2 HRl HRw HPw h8 HL HO
      go_upto_region 8 with fail
      rw [← hW1]
      obtain ⟨b7, hb7⟩ : ∃ b7, b7 = wr.heap.size := ⟨_, rfl⟩
      rw [← hb7] at HM1 ⊢
      obtain ⟨m0, m1, m2, m3, m4, m5, m6⟩ := seven_at HM1.out
      clear hW1 c0 c1 c2 c3 c4 c5 c6 hb7
      go_wp2_with fail
      refine han.mono ?_
      rintro e w3 ⟨v3, rfl, o3, b3⟩
      have HO3 : Hid (w3.ownsRow w.heap.size 5 1 v3 L2.length (L2.map B)) := o3
      have HB3 : Hid (Below w.heap.size w w3) := HB1.out.trans b3
      clear han o3 b3 m0 m1 m2 m3 m4 m5 m6
      go_wp2_with fail
      go_roundw
      case measure => simp only [intOf]; omega
      case rel => exact ⟨k + 1, L2, by omega, by go_num, hL2l, HO3, HL2, HB3⟩
    · obtain rfl : k = N := by omega
      have HTT : Hid (TX = L) := by
        show _ = _
        rw [HTx.out, ← HL.out, List.take_of_length_le (by rw [HN.out]; exact Nat.le_refl _)]
      have hcv := run_str HO.out
      clear HL HO
      by_cases h4 : 4096 < L.length
      · have g4 : (4096 : Int) < (L.length : Int) := by omega
        have HR : Hid (Z = ([], 2)) := by
          have := HZ1.out
          rwa [HTT.out, if_pos h4] at this
        clear HZ1 hcv
        go_wp2_with fail
        go_ret2
        exact ⟨by rw [HR.out]; rfl, HB.out⟩
      · have g4 : ¬ (4096 : Int) < (L.length : Int) := by omega
        have HR : Hid (Z = (L, 0)) := by
          have := HZ1.out
          rwa [HTT.out, if_neg h4] at this
        clear HZ1
        go_wp2_with fail
        go_ret2
        exact ⟨by rw [HR.out]; rfl, HB.out⟩

end Go.Proofs.YtimdioacmojkeabGreatDoor

namespace Go.Proofs.YtimdioacmojkeabGreatDoor
open Go.RowKit
set_option maxRecDepth 4000

theorem Kt.of_rs {A B : World} {br : Nat} {x : Td.St} (hk : Kept (fun j => j ≠ br) A B) (hr : Rs A br x) : Kt 116 A B :=
  ⟨hk.os, hk.tape, hk.output, hk.size, fun k o ho hn => by
    by_cases e : k = br
    · subst e
      unfold Rs at hr
      rw [hr, Option.some.injEq] at ho
      exact absurd ⟨_, _, ho.symm⟩ hn
    · exact (hk.block k (Array.getElem?_eq_some_iff.1 ho).1 e).trans ho⟩

theorem NdG.kr {w W : World} {n : Nod} {c : List Value} (hk : Kt 116 w W) (h : NdG w n c) : NdG W n c := by
  obtain ⟨v, e, hr, ht, ho⟩ := h
  refine ⟨v, e, ⟨?_, hr.room⟩, fun a m c hv => ?_, ho⟩
  · rcases hr.at_ with h1 | ⟨bk, o, cap, h1, h2, h3⟩
    · exact .inl h1
    · obtain ⟨cur, fr, hb⟩ := ht _ _ _ h1
      have hb' := hk.cell hb (by decide)
      refine .inr ⟨bk, o, cap, h1, Nat.lt_of_lt_of_le h2 hk.size, fun j t hj r u hu => ?_⟩
      rw [← h3 j t hj r u hu]
      simp only [World.cell?] at hb hb' ⊢
      rw [hb, hb']
  · obtain ⟨cur, fr, hb⟩ := ht a m c hv
    exact ⟨cur, fr, hk.cell hb (by decide)⟩

theorem NdG.keep {w W : World} {n : Nod} {c : List Value} (hs : w.heap.size ≤ W.heap.size) (hk : ∀ (k : Nat) cur fr, w.heap[k]? = some (.cells cur 30 fr) → W.heap[k]? = some (.cells cur 30 fr)) (h : NdG w n c) : NdG W n c := by
  obtain ⟨v, e, hr, ht, ho⟩ := h
  refine ⟨v, e, ⟨?_, hr.room⟩, fun a m c hv => ?_, ho⟩
  · rcases hr.at_ with h1 | ⟨bk, o, cap, h1, h2, h3⟩
    · exact .inl h1
    · obtain ⟨cur, fr, hb⟩ := ht _ _ _ h1
      have hb' := hk _ _ _ hb
      refine .inr ⟨bk, o, cap, h1, Nat.lt_of_lt_of_le h2 hs, fun j t hj r u hu => ?_⟩
      rw [← h3 j t hj r u hu]
      simp only [World.cell?] at hb hb' ⊢
      rw [hb, hb']
  · obtain ⟨cur, fr, hb⟩ := ht a m c hv
    exact ⟨cur, fr, hk _ _ _ hb⟩

/-- a row of nodes stays where the rows of nodes and of IDs stay -/
theorem Oy.keep {base : Nat} {w W : World} {v : Value} {l : List Nod} (h : Oy 7 80 NdG base w v l) (hs : w.heap.size ≤ W.heap.size) (hk : ∀ (k : Nat) cur t fr, (t = 30 ∨ t = 80) → w.heap[k]? = some (.cells cur t fr) → W.heap[k]? = some (.cells cur t fr)) : Oy 7 80 NdG base W v l :=
  h.obj (fun _ _ q => q.keep hs fun k cur fr ho => hk k cur _ fr (.inl rfl) ho) fun g cur fr ho => hk g cur _ fr (.inr rfl) ho

theorem Oy.belowN {base : Nat} {w W : World} {v : Value} {l : List Nod} (h : Oy 7 80 NdG base w v l) (hb : Below w.heap.size w W) : Oy 7 80 NdG base W v l :=
  h.keep hb.size fun k _ _ _ _ ho => (hb.block k (Array.getElem?_eq_some_iff.1 ho).1).trans ho

/-- what nodes answers -/
def NsOut (br : Nat) (w : World) (x : Td.St) (e : Ending) (w' : World) : Prop :=
  ∃ v l, e = .returned v ∧ nds l = (Td.sAll (Td.sNum 64 x).1 (Td.sNum 64 x).2).1 ∧ l.length ≤ 64 ∧ Oy 7 80 NdG w.heap.size w' v l ∧ Rs w' br (Td.sAll (Td.sNum 64 x).1 (Td.sNum 64 x).2).2 ∧ Kept (fun j => j ≠ br) w w'

set_option maxHeartbeats 4000000 in
set_option maxRecDepth 10000 in
theorem rdnodes_any (br : Nat) (x : Td.St) (w : World) (h : Rs w br x) (hx : x.1.length ≤ 1048576) :
    Calls Tryz.prog 61 #[.pointer (some ⟨br, 0, none⟩)] w (NsOut br w x) := by
  unfold NsOut
  obtain ⟨i0, hi, hz0, hz1, hz2⟩ := info_of' info_nd
  have hg := rdnumber_any br 64 x w h (by omega) hx
  have hnp := Td.sNum_most 64 x
  have hl1 := Td.sNum_len 64 x
  rcases hN : Td.sNum 64 x with ⟨np, x1⟩
  rw [hN] at hg hnp hl1
  dsimp only at *
  unfold RsOut at hg
  have HB : Hid (br < w.heap.size) := h.lt
  have HL : Hid (∀ k, (Td.sAll k x1).2.1.length ≤ 1048576) := fun k => by have := (Td.sAll_len x1 k).1; omega
  have HSt : Hid (∀ k, Td.sAll (k + 1) x1 = ((Td.sAll k x1).1 ++ [(Td.sNode (Td.sAll k x1).2).1], (Td.sNode (Td.sAll k x1).2).2)) := fun k => rfl
  clear h hN hx hl1
  go_enter Tryz.func61, Tryz.ntmps61
  go_wp2_with fail
  refine hg.mono ?_
  rintro e w1 ⟨rfl, r1, k1⟩
  have HR1 : Hid (Rs w1 br x1) := r1
  have HK1 : Hid (Kept (fun j => j ≠ br) w w1) := k1
  clear hg r1 k1
  go_wp2_with fail
  go_loopw [3, 6] (fun v i wr => ∃ (k : Nat) (l : List Nod), k ≤ np ∧ i = .int .i64 k ∧ l.length = k ∧ Hid (nds l = (Td.sAll k x1).1) ∧ Hid (Oy 7 80 NdG w.heap.size wr v l) ∧ Hid (Rs wr br (Td.sAll k x1).2) ∧ Hid (Kept (fun j => j ≠ br) w wr)) (fun _ i _ => np - (intOf i).toNat)
  case atStart => exact ⟨0, [], by omega, rfl, rfl, rfl, Oy.nil, HR1, HK1⟩
  case round =>
    clear HR1 HK1
    obtain ⟨k, l, hk, rfl, hlk, HD, HO, HR, HK⟩ := hrel
    by_cases hlt : k < np
    · have hst := HSt.out k
      have hnr := rdnode_any br (Td.sAll k x1).2 wr HR.out (HL.out k)
      unfold NoOut at hnr
      have HST : Hid (Td.sAll (k + 1) x1 = ((Td.sAll k x1).1 ++ [(Td.sNode (Td.sAll k x1).2).1], (Td.sNode (Td.sAll k x1).2).2)) := hst
      generalize Td.sNode (Td.sAll k x1).2 = NN at *
      clear hst
      go_wp2_with fail
      refine hnr.mono ?_
      rintro e w3 ⟨n, v, rfl, hnd, o3, hok, r3, k3⟩
      obtain ⟨av, cv, rfl⟩ := own_len o3
      have HG3 : Hid (NdG w3 n (ndC n (.slice av n.parts.length cv))) := ⟨_, rfl, rx_own o3 rfl hok.ids, own_type o3, hok⟩
      have hKr : Kt 116 wr w3 := Kt.of_rs k3 HR.out
      obtain ⟨cc, o1, o2, o2l, o4⟩ := HO.out
      have o1' : w3.ownsRow w.heap.size 80 7 u3 l.length cc.flatten := own_kept o1 k3 fun g hg => by have := own_ge o1 hg; have := HB.out; omega
      have HO2 : Hid ((∀ c ∈ cc, c.length = 7) ∧ cc.length = l.length ∧ ∀ (j : Nat) t c, l[j]? = some t → cc[j]? = some c → NdG w3 t c) := ⟨o2, o2l, fun j t c a b => NdG.kr hKr (o4 j t c a b)⟩
      have HD2 : Hid (nds (l ++ [n]) = (Td.sAll (k + 1) x1).1) := by show _ = _; rw [HST.out, ← HD.out, ← hnd]; simp [nds]
      have HR3 : Hid (Rs w3 br (Td.sAll (k + 1) x1).2) := by rw [HST.out]; exact r3
      have HK3 : Hid (Kept (fun j => j ≠ br) w w3) := HK.out.trans k3
      have HLe : Hid (l.length = k ∧ (l ++ [n]).length = k + 1) := ⟨hlk, by rw [List.length_append, hlk]; rfl⟩
      have hl4 : l.length ≤ 64 := by omega
      have hsw := HK3.out.size
      obtain ⟨np', hnp'⟩ : ∃ np', np' = n.parts.length := ⟨_, rfl⟩
      rw [← hnp'] at HG3 ⊢
      clear hnr o3 hok r3 k3 hKr o1 o2 o2l o4 hnd hnp' HST HO HR HK HD
      obtain ⟨name, kind, mode, time, size, parts, link⟩ := n
      dsimp only at *
      go_wp2_with (at_builtin; refine wpList_append_own _ rfl (.tmp 8) (.tmp 11) 77 rfl w.heap.size 80 i0 (.agg #[.string ⟨#[]⟩, .int .i64 0, .int .i64 0, .int .i64 0, .int .i64 0, .slice none 0 0, .string ⟨#[]⟩]) 7 88 Tryz.underlying77 hi hz0 hz1 hz2 rfl (by decide) _ _ _ rfl (o1'.alloc _) ⟨w3.heap.size, 0, none⟩ 1 1 [.string name, .int .i64 kind, .int .i64 mode, .int .i64 time, .int .i64 size, .slice av np' cv, .string link] rfl rfl (seven_new w3 _ _ _ _ _ _ _) ?c2 ?c3 ?c4 ?c5 ?_)
      case c2 => simp [Value.oneCell']
      case c3 => unfold maxLen; omega
      case c4 => omega
      case c5 => first | omega | (simp; omega)
      intro v6 w5 hown5 hgrow _
      rw [← HLe.out.1] at hown5
      have hk5 : Kt 80 w3 w5 := ((Kt.refl _ w3).alloc _).trans (Kt.of_grown hgrow fun g hg => by
        obtain ⟨cur, q, _⟩ := own_block (o1'.alloc _) hg
        exact ⟨cur, _, q⟩)
      have hge : ∀ g, u3.ownBlock = some g → w.heap.size ≤ g := fun g hg => own_ge o1' hg
      have HR5 : Hid (Rs w5 br (Td.sAll (k + 1) x1).2) := hk5.cell HR3.out (by decide)
      have HK5 : Hid (Kept (fun j => j ≠ br) w w5) := by
        have hz := HK3.out.alloc (.cells #[.string name, .int .i64 kind, .int .i64 mode, .int .i64 time, .int .i64 size, .slice av np' cv, .string link] 80)
        exact ⟨hgrow.os.trans hz.os, hgrow.tape.trans hz.tape, hgrow.output.trans hz.output, Nat.le_trans hz.size hgrow.size, fun j hj hp => (hgrow.block j (Nat.lt_of_lt_of_le hj hz.size) fun e => by have := hge j e.symm; omega).trans (hz.block j hj hp)⟩
      have HOn : Hid (Oy 7 80 NdG w.heap.size w5 v6 (l ++ [⟨name, kind, mode, time, size, parts, link⟩])) := Oy.more HO2.out.1 HO2.out.2.1 (fun j t c a b => NdG.kt hk5 (HO2.out.2.2 j t c a b)) hown5 rfl (NdG.kt hk5 HG3.out)
      clear hown5 hgrow hk5 o1' HO2 HG3 HK3 HR3 hge
      go_wp2_with fail
      go_roundw
      case measure => simp only [intOf]; omega
      case rel => exact ⟨k + 1, _, by omega, by go_num, HLe.out.2, HD2, HOn, HR5, HK5⟩
    · obtain rfl : k = np := by omega
      have hl64 : l.length ≤ 64 := by omega
      go_wp2_with fail
      go_ret
      exact ⟨_, l, rfl, HD.out, hl64, HO.out, HR.out, HK.out⟩

/-- what Read answers -/
def TgOut (s : ByteArray) (w : World) (e : Ending) (w' : World) : Prop :=
  ∃ v l, e = .returned (.tuple #[v, .int .i64 (Td.read s.data.toList).2]) ∧ nds l = (Td.read s.data.toList).1 ∧ Nds w' v l ∧ l.length ≤ 64 ∧ Below w.heap.size w w'

/-- the same, the rows by their blocks' types -/
def TgOy (s : ByteArray) (w : World) (e : Ending) (w' : World) : Prop :=
  ∃ v l B, e = .returned (.tuple #[v, .int .i64 (Td.read s.data.toList).2]) ∧ nds l = (Td.read s.data.toList).1 ∧ Oy 7 80 NdG B w' v l ∧ l.length ≤ 64 ∧ Below w.heap.size w w'

theorem write_size (l : List Nod) : (⟨(Td.write (nds l)).1.toArray⟩ : ByteArray).size ≤ 9223372036854775807 := by
  rw [tg_size]
  unfold Td.write
  split
  · simp
  · split
    · simp
    · show (Td.textB (nds l)).length ≤ _; omega

set_option maxHeartbeats 4000000 in
set_option maxRecDepth 10000 in
theorem tread_oy (s : ByteArray) (w : World) (hs : s.size ≤ 9223372036854775807) (hT : Tabs w) : Calls Tryz.prog 44 #[.string s] w (TgOy s w) := by
  unfold TgOy
  by_cases h4 : 4096 < s.size
  · have HR : Hid (Td.read s.data.toList = ([], 2)) := by show _ = _; unfold Td.read; rw [if_pos (by rw [← Lib.size_eq]; exact h4)]
    generalize Td.read s.data.toList = RES at *
    have g4 : (4096 : Int) < (s.size : Int) := by omega
    clear hT
    go_enter Tryz.func44, Tryz.ntmps44
    go_wp2_with fail
    go_ret2
    exact ⟨_, [], 0, by rw [HR.out]; rfl, by rw [HR.out]; rfl, Oy.nil, by simp, Below.refl _ _⟩
  have g4 : ¬ (4096 : Int) < (s.size : Int) := by omega
  rcases hA : Td.sAll (Td.sNum 64 (s.data.toList, 0)).1 (Td.sNum 64 (s.data.toList, 0)).2 with ⟨L, r, er⟩
  have HRd : Hid (Td.read s.data.toList = if er ≠ 0 then ([], er) else if r ≠ [] then ([], 4) else if Td.check L ≠ 0 then ([], Td.check L) else (L, 0)) := Td.read_st (by rw [← Lib.size_eq]; exact h4) hA
  generalize Td.read s.data.toList = RES at *
  obtain ⟨W1, hW1⟩ : ∃ W1, W1 = w.alloc (.cells #[.string s, .int .i64 0] 116) := ⟨_, rfl⟩
  have HB1 : Hid (Below w.heap.size w W1) := by rw [hW1]; exact (Below.refl _ w).alloc (Nat.le_refl _) _
  have HR1 : Hid (Rs W1 w.heap.size (s.data.toList, 0)) := by rw [hW1]; exact heap_alloc_new w _
  have hns := rdnodes_any w.heap.size (s.data.toList, 0) W1 HR1.out (by show List.length _ ≤ _; rw [← Lib.size_eq]; omega)
  unfold NsOut at hns
  rw [hA] at hns
  dsimp only at hns
  have HT : Hid (Tabs w) := hT
  have hrl : r.length ≤ 4096 := by
    have q1 := (Td.sAll_len (Td.sNum 64 (s.data.toList, 0)).2 (Td.sNum 64 (s.data.toList, 0)).1).1
    have q2 := Td.sNum_len 64 (s.data.toList, 0)
    rw [hA] at q1
    have q3 : s.data.toList.length = s.size := (Lib.size_eq s).symm
    simp only at q1 q2
    omega
  obtain ⟨br, hbr⟩ : ∃ br, br = w.heap.size := ⟨_, rfl⟩
  have HBr : Hid (br = w.heap.size) := hbr
  rw [← hbr] at hns
  clear hT hA HR1
  go_enter Tryz.func44, Tryz.ntmps44
  go_upto_region 4 with fail
  rw [← hW1, ← hbr]
  clear hW1 hbr
  go_wp2_with fail
  refine hns.mono ?_
  rintro e w2 ⟨v, l, rfl, hd, hl, hn, r2, k2⟩
  have hb2 : Below w.heap.size w w2 := HB1.out.trans (k2.below HB1.out.size fun j hj => by have := HBr.out; omega)
  have HB2 : Hid (Below w.heap.size w w2) := hb2
  have HN2 : Hid (Oy 7 80 NdG W1.heap.size w2 v l) := hn
  have hck := tcheck_any v l w2 (Nds.of_oy hn) (by omega) (HT.out.below hb2)
  rw [hd] at hck
  have HD : Hid (nds l = L) := hd
  obtain ⟨c0, c1, f0, f1⟩ := r2.cells
  dsimp only at c0 c1
  obtain ⟨t, ht⟩ : ∃ t : ByteArray, t = ⟨r.toArray⟩ := ⟨_, rfl⟩
  have hts : t.size = r.length := by rw [ht]; exact tg_size r
  rw [← ht] at c0
  clear hns hb2 hn hd r2 k2 HB1 ht f0 f1
  by_cases he : er ≠ 0
  · have hqn : (er != 0) = true := by rw [bne_iff_ne]; exact he
    have HRE : Hid (RES = ([], er)) := by
      have := HRd.out
      rwa [if_pos he] at this
    clear HRd hck
    go_wp2_with fail
    go_quiet (fail)
    go_wp2_with fail
    go_ret2
    exact ⟨_, [], 0, by rw [HRE.out]; rfl, by rw [HRE.out]; rfl, Oy.nil, by simp, below_drewN HB2.out _⟩
  obtain rfl := Decidable.not_not.mp he
  have HRd1 : Hid (RES = if r ≠ [] then ([], 4) else if Td.check L ≠ 0 then ([], Td.check L) else (L, 0)) := by
    have := HRd.out
    rwa [if_neg (by simp)] at this
  clear HRd he
  by_cases hr : r ≠ []
  · have HRE : Hid (RES = ([], 4)) := by
      have := HRd1.out
      rwa [if_pos hr] at this
    have hp : (0 : Int) < (t.size : Int) := by have := List.length_pos_iff.2 hr; omega
    clear HRd1 hck
    go_wp2_with fail
    go_ret2
    exact ⟨_, [], 0, by rw [HRE.out]; rfl, by rw [HRE.out]; rfl, Oy.nil, by simp, HB2.out⟩
  obtain rfl := Decidable.not_not.mp hr
  have HRd2 : Hid (RES = if Td.check L ≠ 0 then ([], Td.check L) else (L, 0)) := by
    have := HRd1.out
    rwa [if_neg (by simp)] at this
  have hp : ¬ (0 : Int) < (t.size : Int) := by rw [hts]; simp
  generalize Td.check L = E at *
  clear HRd1 hr hrl hts
  go_wp2_with fail
  refine hck.mono ?_
  rintro e w3 ⟨rfl, b3⟩
  have HB3 : Hid (Below w.heap.size w w3) := HB2.out.trans (b3.mono HB2.out.size)
  have HN3 : Hid (Oy 7 80 NdG W1.heap.size w3 v l) := HN2.out.belowN b3
  clear hck b3
  by_cases hE : E ≠ 0
  · have hqn : (E != 0) = true := by rw [bne_iff_ne]; exact hE
    have HRE : Hid (RES = ([], E)) := by
      have := HRd2.out
      rwa [if_pos hE] at this
    clear HRd2
    go_wp2_with fail
    go_ret2
    exact ⟨_, [], 0, by rw [HRE.out]; rfl, by rw [HRE.out]; rfl, Oy.nil, by simp, HB3.out⟩
  obtain rfl := Decidable.not_not.mp hE
  have HRE : Hid (RES = (L, 0)) := by
    have := HRd2.out
    rwa [if_neg (by simp)] at this
  clear HRd2 hE
  go_wp2_with fail
  go_ret2
  exact ⟨_, l, _, by rw [HRE.out]; rfl, by rw [HRE.out]; exact HD.out, HN3.out, hl, HB3.out⟩

theorem tread_any (s : ByteArray) (w : World) (hs : s.size ≤ 9223372036854775807) (hT : Tabs w) : Calls Tryz.prog 44 #[.string s] w (TgOut s w) :=
  (tread_oy s w hs hT).mono fun _ _ ⟨v, l, _, h1, h2, h3, h4, h5⟩ => ⟨v, l, h1, h2, Nds.of_oy h3, h4, h5⟩

end Go.Proofs.YtimdioacmojkeabGreatDoor

namespace Go.Proofs.YtimdioacmojkeabGreatDoor
open Go.RowKit
open Nn (Name)

def kI (W0 : List Im) (p : List Name) : List Im := Wk.kids (fun x => x.it.nms) W0 p

def dI (W0 : List Im) (k : Nat) (p : List Name) : List Im := Wk.dfs (fun x => x.it.nms) (fun x => x.it.dir) W0 k p

def blk (W0 : List Im) (k : Nat) (x : Im) : List Im := x :: (if x.it.dir then dI W0 k x.it.nms else [])

theorem dI_succ (W0 : List Im) (k : Nat) (p : List Name) : dI W0 (k + 1) p = (kI W0 p).flatMap (blk W0 k) := rfl

theorem kI_its (W0 : List Im) (p : List Name) : its (kI W0 p) = Wk.kids Wk.It.nms (its W0) p := by
  unfold its kI Wk.kids
  rw [List.filter_map]
  rfl

theorem mem_kI {W0 : List Im} {p : List Name} {x : Im} : x ∈ kI W0 p ↔ x ∈ W0 ∧ ∃ s, x.it.nms = p ++ [s] := Wk.mem_kids

theorem mem_dI {W0 : List Im} : ∀ (k : Nat) (p : List Name) (x : Im), x ∈ dI W0 k p → x ∈ W0
  | 0, _, _, h => absurd h List.not_mem_nil
  | k + 1, p, x, h => by
    rw [dI_succ, List.mem_flatMap] at h
    obtain ⟨y, hy, hx⟩ := h
    rcases List.mem_cons.1 hx with e | hx
    · rw [e]; exact (mem_kI.1 hy).1
    · split at hx
      · exact mem_dI k _ x hx
      · exact absurd hx List.not_mem_nil

theorem mem_blk {W0 : List Im} {k : Nat} {x y : Im} (hx : x ∈ W0) (hy : y ∈ blk W0 k x) : y ∈ W0 := by
  rcases List.mem_cons.1 hy with e | hy
  · rw [e]; exact hx
  · split at hy
    · exact mem_dI k _ y hy
    · exact absurd hy List.not_mem_nil

/-- what comes first lies not beneath p -/
def Nb0 (p : List Name) (rest : List Im) : Prop := ∀ y, rest.head? = some y → ¬ ∃ r, r ≠ [] ∧ y.it.nms = p ++ r

theorem nb_sub {W0 : List Im} {k : Nat} {p : List Name} {s : Name} {K rest : List Im} (hK : ∀ y ∈ K, ∃ t, y.it.nms = p ++ [t]) (h : Nb0 p rest) : Nb0 (p ++ [s]) (K.flatMap (blk W0 k) ++ rest) := by
  intro y hy ⟨r, hr, e⟩
  cases K with
  | nil =>
    refine h y hy ⟨s :: r, by simp, ?_⟩
    rw [e]; simp
  | cons z K =>
    have hz : (z :: K).flatMap (blk W0 k) ++ rest = z :: ((if z.it.dir then dI W0 k z.it.nms else []) ++ (K.flatMap (blk W0 k) ++ rest)) := by
      rw [List.flatMap_cons]; simp [blk]
    rw [hz, List.head?_cons, Option.some.injEq] at hy
    subst hy
    obtain ⟨t, ht⟩ := hK z List.mem_cons_self
    rw [ht] at e
    have h1 := congrArg List.length e
    have h2 : 0 < r.length := List.length_pos_iff.2 hr
    rw [List.length_append, List.length_append, List.length_append] at h1
    simp only [List.length_cons, List.length_nil] at h1
    omega

theorem tails_inj {l m : List Name} (hl : ∀ s ∈ l, (47 : UInt8) ∉ s) (hm : ∀ s ∈ m, (47 : UInt8) ∉ s) (h : Nn.tails l = Nn.tails m) : l = m := by
  have h1 := Nn.cut_tails hl
  have h2 := Nn.cut_tails hm
  rw [h, h2] at h1
  exact (List.cons.inj h1).2.symm

/-- how an item's path parts -/
theorem path_parts {x : Im} (h : Wk.Ok1 x.it) : x.path.data.toList = Wk.par x.it ++ 47 :: Wk.nam x.it := Wk.path_snoc h

theorem nms_noslash {x : Im} (h : Wk.Ok1 x.it) : ∀ s ∈ x.it.nms, (47 : UInt8) ∉ s := Nn.noslash (Wk.errs_nms h)

theorem path_size {x : Im} (_ : Wk.Ok1 x.it) (hp : x.path.size ≤ 140737488351232) : x.path.size < 4611686018427387904 := by omega

theorem nms_last {x : Im} {p : List Name} {s : Name} (e : x.it.nms = p ++ [s]) : Wk.par x.it = Nn.tails p ∧ Wk.nam x.it = s := by
  unfold Wk.par Wk.nam
  rw [e]
  simp

/-- a row without its first thing -/
theorem Rx.rest {α : Type} {k : Nat} {C : α → List Value} {w : World} {bk o c : Nat} {x : α} {l : List α} (h : Rx k C w (.slice (some ⟨bk, o, none⟩) (l.length + 1) c) (x :: l)) :
    Rx k C w (.slice (if c = 1 then some ⟨bk, o, none⟩ else some ⟨bk, o + k, none⟩) l.length (c - 1)) l := by
  obtain ⟨a', n', c', e, h1, h2⟩ := h.room
  cases e
  refine ⟨?_, ⟨_, _, _, rfl, by omega, by omega⟩⟩
  by_cases hc : c = 1
  · have hl : l.length = 0 := by omega
    rw [List.length_eq_zero_iff.1 hl]
    exact .inl ⟨⟨_, _, rfl⟩, rfl⟩
  · rw [if_neg hc]
    rcases h.at_ with ⟨⟨_, _, e⟩, _⟩ | ⟨bk', o', cap, e, h3, h4⟩
    · cases e
    · cases e
      refine .inr ⟨bk, o + k, c - 1, rfl, h3, fun j t hj r u hu => ?_⟩
      have := h4 (j + 1) t (by simpa using hj) r u hu
      rw [Nat.add_mul, Nat.one_mul] at this
      rw [← this]
      congr 2
      omega

theorem Plt.set4 {base b m n : Nat} {fx mn mx bt : Int} {w : World} {left left' : List Im} {bs : List Blb} (h : Plt base b m fx mn mx bt w left bs n) (lv : Value) (h1 : Ims w lv left') (h2 : ∀ a n c, lv = .slice (some a) n c → left' ≠ [] → a.block < base) :
    Plt base b m fx mn mx bt (w.setCell ⟨b, 4, none⟩ lv) left' bs n ∧ Kt 58 w (w.setCell ⟨b, 4, none⟩ lv) ∧ Below base w (w.setCell ⟨b, 4, none⟩ lv) := by
  obtain ⟨⟨lv0, bv, p1, p2, p3, p4⟩, hm, ha, hc⟩ := h
  have hk : Kt 58 w (w.setCell ⟨b, 4, none⟩ lv) := Kt.set p1 4 lv
  have hb : Below base w (w.setCell ⟨b, 4, none⟩ lv) := (Below.refl _ w).setCell ha _
  refine ⟨⟨⟨lv, bv, ?_, h1.keepb hb h2, h2, own_kt p4 hk (by decide)⟩, hm.obj fun es c ho => hk.obj _ _ ho (fun ⟨_, _, e⟩ => by cases e), ha, hc⟩, hk, hb⟩
  have := set_at p1 4 lv
  simpa using this

/-- what is sure of the items that are planted -/
structure Gd (fx mn mx bt : Int) (W0 : List Im) : Prop where
  right : Wk.Right (its W0)
  ok : ∀ x ∈ W0, x.Ok
  way : wayN fx mn mx bt = 0

theorem Gd.ok1 {fx mn mx bt : Int} {W0 : List Im} (h : Gd fx mn mx bt W0) {x : Im} (hx : x ∈ W0) : Wk.Ok1 x.it := Wk.iErr_ok (h.right.each _ (List.mem_map_of_mem hx))

/-- what directory answers -/
def DirOk (base b m : Nat) (fx mn mx bt : Int) (W0 : List Im) (k : Nat) : Prop := ∀ (p : List Name) (rest : List Im) (bs : List Blb) (c : Nat) (w : World), p.length + k = 9 → (∀ s ∈ p, (47 : UInt8) ∉ s) → (∀ y ∈ rest, y ∈ W0) → Nb0 p rest →
  c + 300 * (dI W0 k p).length ≤ 800000000 → Pq base b m fx mn mx bt c w (dI W0 k p ++ rest) bs → (∀ W, Below base w W → Tabs W) → ∀ R, R = Wk.plantDir (cutF fx mn mx bt) (its W0) k p (pl bs) →
  Calls Tryz.prog 19 #[.pointer (some ⟨b, 0, none⟩), .string (mkB (Nn.tails p))] w fun e w' => ∃ id, e = .returned (.tuple #[idV id, .int .i64 R.2.2]) ∧ id.length = 8 ∧ Pf base w w' ∧
    (R.2.2 = 0 → id = R.2.1 ∧ ∃ bs', pl bs' = R.1 ∧ Pq base b m fx mn mx bt (c + 300 * (dI W0 k p).length + 1) w' rest bs')

theorem lit_small {n : Int} (h0 : -9223372036854775808 ≤ n) (h1 : n ≤ 9223372036854775807) : (Lit.int .i64 n).wf = true := by
  simp [Lit.wf, IntKind.min, IntKind.max, IntKind.signed, IntKind.bits]
  exact ⟨h0, h1⟩

/-- what node answers, of an item that lies in the directory p -/
theorem node_any {base b m c : Nat} {fx mn mx bt : Int} {W0 : List Im} (hg : Gd fx mn mx bt W0) {k : Nat} (hd : 1 ≤ k → DirOk base b m fx mn mx bt W0 k) {p : List Name} {s : Name} {x : Im} (hx : x ∈ W0) (hs : x.it.nms = p ++ [s]) (hk : p.length + (k + 1) = 9) (rest : List Im) (hr : ∀ y ∈ rest, y ∈ W0) (hn : x.it.dir = true → Nb0 (p ++ [s]) rest) (bs : List Blb) (w : World)
    (hc : c + 300 * (blk W0 k x).length ≤ 800000000) (h : Pq base b m fx mn mx bt c w ((if x.it.dir then dI W0 k x.it.nms else []) ++ rest) bs) (hT : ∀ W, Below base w W → Tabs W) (T : List Pk.Bl × List Wk.Bs × Int) (hTt : T = Wk.thing (cutF fx mn mx bt) (Wk.plantDir (cutF fx mn mx bt) (its W0) k) x.it (pl bs)) :
    Calls Tryz.prog 33 #[.pointer (some ⟨b, 0, none⟩), imV x] w fun e w' => ∃ (n : Nod) (a : Option Addr) (q q' : Nat), e = .returned (.tuple #[.agg (ndC n (.slice a q q')).toArray, .int .i64 T.2.2]) ∧ Pf base w w' ∧
      (T.2.2 = 0 → q = n.parts.length ∧ n.nd = Wk.node x.it T.2.1 ∧ NdG w' n (ndC n (.slice a q q')) ∧ ∃ bs', pl bs' = T.1 ∧ Pq base b m fx mn mx bt (c + 300 * (blk W0 k x).length) w' rest bs') := by
  have hok1 := hg.ok1 hx
  have hxo := hg.ok x hx
  have hlen : (blk W0 k x).length = 1 + (if x.it.dir then dI W0 k x.it.nms else []).length := by simp [blk]; omega
  have hln := fun W => lastName_any x.path (Wk.par x.it) (Wk.nam x.it) W (path_parts hok1) (Wk.nam_slash hok1) (path_size hok1 hxo.path)
  have hnmsz : (mkB (Wk.nam x.it)).size ≤ 9223372036854775807 := by
    have h1 := Wk.path_long hok1
    have h2 := hxo.path
    rw [Lib.size_eq] at h2
    have h3 : x.it.path.length = x.path.data.toList.length := rfl
    rw [mkB, Lib.size_eq]
    simp
    omega
  have hok : ∀ (sz : Int) (ids : List Wk.Bs) (lk : ByteArray), 0 ≤ sz → sz ≤ 9223372036854775807 → lk.size ≤ 9223372036854775807 → (∀ t ∈ ids, t.length = 8) → Nod.Ok ⟨mkB (Wk.nam x.it), x.kind, x.mode, x.time, sz, ids, lk⟩ := fun sz ids lk h0 h1 h2 h3 => by
    have hkd : x.kind = 1 ∨ x.kind = 2 ∨ x.kind = 3 := hok1.kind
    have hmd : 0 ≤ x.mode ∧ x.mode ≤ 511 := hok1.mode
    exact ⟨lit_small (by show _ ≤ x.kind; omega) (by show x.kind ≤ _; omega), lit_small (by show _ ≤ x.mode; omega) (by show x.mode ≤ _; omega), hxo.time, lit_small (by show _ ≤ sz; omega) h1, hnmsz, h2, h3⟩
  rcases hok1.kind with e1 | e1 | e1
  · have e1' : x.kind = 1 := e1
    have hdir : x.it.dir = false := by unfold Wk.It.dir; rw [e1]; rfl
    simp only [hdir, Bool.false_eq_true, if_false, List.nil_append, List.length_nil] at h hlen
    have hbs : x.bytes.size ≤ 4096 := by
      have := hok1.file e1
      rw [Lib.size_eq]; exact this
    have hT1 : T = Wk.pieces (cutF fx mn mx bt x.bytes.data.toList) (pl bs) := by rw [hTt]; unfold Wk.thing; rw [if_pos e1]; rfl
    refine (node_file base b m c fx mn mx bt rest bs x (mkB (Wk.nam x.it)) w h e1' (by omega) hg.way hbs hln T hT1).mono ?_
    rintro e w' ⟨a, n, c', rfl, hf, hz⟩
    refine ⟨⟨mkB (Wk.nam x.it), x.kind, x.mode, x.time, x.bytes.size, T.2.1, ⟨#[]⟩⟩, a, n, c', by rw [← e1'], hf, fun hE => ?_⟩
    obtain ⟨o1, o2, o3, bs', o4, o5⟩ := hz hE
    obtain ⟨a1, c1, e2⟩ := own_form o1
    cases e2
    refine ⟨rfl, ?_, ⟨_, rfl, rx_own o1 rfl o2, own_type o1, hok _ _ _ (by omega) (by omega) (by decide) o2⟩, bs', o4, o5.mono (by omega)⟩
    show Td.Nd.mk _ _ _ _ _ _ _ = Td.Nd.mk _ _ _ _ _ _ _
    have e3 : x.it.kind = 1 := e1
    rw [if_pos e3, if_neg (by rw [e3]; decide), Lib.size_eq]
    rfl
  · have e1' : x.kind = 2 := e1
    have hdir : x.it.dir = true := by unfold Wk.It.dir; rw [e1]; rfl
    rw [if_pos hdir] at h hlen
    have hk1 : 1 ≤ k := by
      have := Wk.names_few hok1
      rw [hs] at this
      simp at this
      omega
    have hT1 : T = ((Wk.plantDir (cutF fx mn mx bt) (its W0) k x.it.nms (pl bs)).1, [(Wk.plantDir (cutF fx mn mx bt) (its W0) k x.it.nms (pl bs)).2.1], (Wk.plantDir (cutF fx mn mx bt) (its W0) k x.it.nms (pl bs)).2.2) := by
      rw [hTt]; unfold Wk.thing; rw [if_neg (by rw [e1]; decide), if_pos e1]
    obtain ⟨R, hR⟩ : ∃ R, R = Wk.plantDir (cutF fx mn mx bt) (its W0) k x.it.nms (pl bs) := ⟨_, rfl⟩
    rw [← hR] at hT1
    subst hT1
    have hpe : x.path = mkB (Nn.tails x.it.nms) := by
      have h1 : x.it.path = Nn.tails x.it.nms := Wk.path_tails hok1
      have h2 : x.path = mkB x.it.path := rfl
      rw [h2, h1]
    refine (node_dir base b m c (c + 300 * (dI W0 k x.it.nms).length + 1) fx mn mx bt _ rest bs x (mkB (Wk.nam x.it)) w h e1' hln R (fun W hb hW => ?_)).mono ?_
    · rw [hpe]
      exact hd hk1 x.it.nms rest bs c W (by rw [hs, List.length_append]; simp only [List.length_cons, List.length_nil]; omega) (nms_noslash hok1) hr (by rw [hs]; exact hn hdir) (by omega) hW (fun W' hW' => hT W' (hb.trans hW')) R hR
    · rintro e w' ⟨a, id, rfl, hf, h8, hrow, hz⟩
      refine ⟨⟨mkB (Wk.nam x.it), x.kind, x.mode, x.time, 0, [id], ⟨#[]⟩⟩, a, 1, 1, by rw [← e1'], hf, fun hE => ?_⟩
      obtain ⟨rfl, bs', o4, o5⟩ := hz hE
      have hids : ∀ t ∈ [R.2.1], t.length = 8 := fun t ht => by rw [List.mem_singleton.1 ht]; exact h8
      have hrow' : w'.ownsRow w.heap.size 30 8 (.slice a 1 1) 1 (rowR idC [R.2.1]) := by
        have : rowR idC [R.2.1] = idC R.2.1 := by simp [rowR]
        rw [this]; exact hrow
      refine ⟨rfl, ?_, ⟨_, rfl, rx_own hrow' rfl hids, own_type hrow', hok _ _ _ (by omega) (by omega) (by decide) hids⟩, bs', o4, o5.mono (by omega)⟩
      show Td.Nd.mk _ _ _ _ _ _ _ = Td.Nd.mk _ _ _ _ _ _ _
      have e3 : x.it.kind = 2 := e1
      rw [if_neg (by rw [e3]; decide), if_neg (by rw [e3]; decide)]
      rfl
  · have e1' : x.kind = 3 := e1
    have hdir : x.it.dir = false := by unfold Wk.It.dir; rw [e1]; rfl
    simp only [hdir, Bool.false_eq_true, if_false, List.nil_append, List.length_nil] at h hlen
    have hT1 : T = (pl bs, [], 0) := by rw [hTt]; unfold Wk.thing; rw [if_neg (by rw [e1]; decide), if_neg (by rw [e1]; decide)]
    subst hT1
    refine (node_link base b m c fx mn mx bt rest bs x (mkB (Wk.nam x.it)) w h e1' hln).mono ?_
    rintro e w' ⟨rfl, hf, hz⟩
    refine ⟨⟨mkB (Wk.nam x.it), x.kind, x.mode, x.time, 0, [], x.bytes⟩, none, 0, 0, by rw [← e1'], hf, fun _ => ?_⟩
    refine ⟨rfl, ?_, ⟨_, rfl, ⟨.inl ⟨⟨_, _, rfl⟩, rfl⟩, ⟨_, _, _, rfl, Nat.le_refl _, by omega⟩⟩, (fun a m c e => by cases e), hok _ _ _ (by omega) (by omega) (by have := hxo.bytes; omega) (fun t ht => absurd ht List.not_mem_nil)⟩, bs, rfl, hz.mono (by omega)⟩
    show Td.Nd.mk _ _ _ _ _ _ _ = Td.Nd.mk _ _ _ _ _ _ _
    have e3 : x.it.kind = 3 := e1
    rw [if_neg (by rw [e3]; decide), if_pos e3]
    rfl

end Go.Proofs.YtimdioacmojkeabGreatDoor

namespace Go.Proofs.YtimdioacmojkeabGreatDoor
open Go.RowKit
set_option maxRecDepth 4000
open Nn (Name)

def lenV : Value → Nat
  | .slice _ n _ => n
  | _ => 0

theorem Oy.pf {base base' : Nat} {w W : World} {v : Value} {l : List Nod} (h : Oy 7 80 NdG base' w v l) (hk : Pf base w W) : Oy 7 80 NdG base' W v l :=
  h.obj (fun t c ⟨u, e, hr, ht, ho⟩ => by
    refine ⟨u, e, ⟨?_, hr.room⟩, fun a m c hv => ?_, ho⟩
    · rcases hr.at_ with h1 | ⟨bk, o, cap, h1, h2, h3⟩
      · exact .inl h1
      · obtain ⟨cur, fr, hb⟩ := ht _ _ _ h1
        have hb' := hk.cells hb (by decide) (by decide)
        refine .inr ⟨bk, o, cap, h1, Nat.lt_of_lt_of_le h2 hk.size, fun j t hj r u hu => ?_⟩
        rw [← h3 j t hj r u hu]
        simp only [World.cell?] at hb hb' ⊢
        rw [hb, hb']
    · obtain ⟨cur, fr, hb⟩ := ht a m c hv
      exact ⟨cur, fr, hk.cells hb (by decide) (by decide)⟩) fun g cur fr ho => hk.cells ho (by decide) (by decide)

theorem Pf.of_pl {base : Nat} {A B : World} (hk : Kt 58 A B) (hb : Below base A B) : Pf base A B :=
  ⟨hb, ⟨hk.os, hk.tape, hk.output, hk.size, fun k o ho hp => hk.obj k o ho (fun ⟨_, _, e⟩ => by subst e; exact hp.2 rfl)⟩⟩

theorem take_flat {α β : Type} {f : α → List β} {K : List α} {j : Nat} {x : α} (hx : K[j]? = some x) : ((K.take (j + 1)).flatMap f).length = ((K.take j).flatMap f).length + (f x).length ∧ ((K.take (j + 1)).flatMap f).length ≤ (K.flatMap f).length := by
  have hlt := (List.getElem?_eq_some_iff.1 hx).1
  constructor
  · rw [List.take_succ_eq_append_getElem hlt, (List.getElem?_eq_some_iff.1 hx).2, List.flatMap_append, List.length_append]
    simp
  · conv => rhs; rw [← List.take_append_drop (j + 1) K]
    rw [List.flatMap_append, List.length_append]
    omega

/-- what things leave, when some of them have been made -/
theorem things_step {cutf : Wk.Bs → List Wk.Bs} {sub : List Name → List Pk.Bl → List Pk.Bl × Wk.Bs × Int} {K : List Im} {j : Nat} {x : Im} (hx : K[j]? = some x) {l : List Pk.Bl} {T : List Pk.Bl × List Td.Nd × Int} {done : List Td.Nd}
    (h : T = ((Wk.things cutf sub (its (K.drop j)) l).1, done ++ (Wk.things cutf sub (its (K.drop j)) l).2.1, (Wk.things cutf sub (its (K.drop j)) l).2.2)) :
    ((Wk.thing cutf sub x.it l).2.2 ≠ 0 → T.2.2 = (Wk.thing cutf sub x.it l).2.2) ∧
    ((Wk.thing cutf sub x.it l).2.2 = 0 → T = ((Wk.things cutf sub (its (K.drop (j + 1))) (Wk.thing cutf sub x.it l).1).1, (done ++ [Wk.node x.it (Wk.thing cutf sub x.it l).2.1]) ++ (Wk.things cutf sub (its (K.drop (j + 1))) (Wk.thing cutf sub x.it l).1).2.1, (Wk.things cutf sub (its (K.drop (j + 1))) (Wk.thing cutf sub x.it l).1).2.2)) := by
  have hlt := (List.getElem?_eq_some_iff.1 hx).1
  have e0 : its (K.drop j) = x.it :: its (K.drop (j + 1)) := by
    rw [List.drop_eq_getElem_cons hlt, (List.getElem?_eq_some_iff.1 hx).2]; rfl
  rw [e0, Wk.things] at h
  constructor
  · intro hE
    rw [h]
    dsimp only
    rw [if_pos hE]
  · intro hE
    rw [h]
    dsimp only
    rw [if_neg (fun q => q hE)]
    simp

set_option maxHeartbeats 4000000 in
set_option maxRecDepth 10000 in
theorem dir_step {base b m : Nat} {fx mn mx bt : Int} {W0 : List Im} (hg : Gd fx mn mx bt W0) (k : Nat) (ih : 1 ≤ k → DirOk base b m fx mn mx bt W0 k) : DirOk base b m fx mn mx bt W0 (k + 1) := by
  intro p rest bs c w hpk hps hr hn hc h hT R hR
  obtain ⟨i0, hi, hz0, hz1, hz2⟩ := info_of' info_nd
  have hbase := h.base
  obtain ⟨K, hK⟩ : ∃ K, K = kI W0 p := ⟨_, rfl⟩
  have HKm : Hid (∀ x ∈ K, x ∈ W0 ∧ ∃ s, x.it.nms = p ++ [s]) := fun x hx => by rw [hK] at hx; exact mem_kI.1 hx
  rw [dI_succ, ← hK] at h hc
  rw [dI_succ, ← hK]
  rw [Wk.plantDir, ← kI_its, ← hK] at hR
  obtain ⟨T, hTd⟩ : ∃ T, T = Wk.things (cutF fx mn mx bt) (Wk.plantDir (cutF fx mn mx bt) (its W0) k) (its K) (pl bs) := ⟨_, rfl⟩
  rw [← hTd] at hR
  have HT0 : Hid (T = ((Wk.things (cutF fx mn mx bt) (Wk.plantDir (cutF fx mn mx bt) (its W0) k) (its (K.drop 0)) (pl bs)).1, nds [] ++ (Wk.things (cutF fx mn mx bt) (Wk.plantDir (cutF fx mn mx bt) (its W0) k) (its (K.drop 0)) (pl bs)).2.1, (Wk.things (cutF fx mn mx bt) (Wk.plantDir (cutF fx mn mx bt) (its W0) k) (its (K.drop 0)) (pl bs)).2.2)) := by
    show _ = _
    rw [hTd]; simp [nds]
  have HRR : Hid (R = if T.2.2 ≠ 0 then ([], [], T.2.2) else if (Td.write T.2.1).2 ≠ 0 then ([], [], (Td.write T.2.1).2) else Wk.into T.1 (2, (Td.write T.2.1).1)) := hR
  obtain ⟨W1, hW1⟩ : ∃ W1, W1 = w.alloc (.cells #[.int .u8 0, .int .u8 0, .int .u8 0, .int .u8 0, .int .u8 0, .int .u8 0, .int .u8 0, .int .u8 0] 30) := ⟨_, rfl⟩
  have hB1 : Below w.heap.size w W1 := by rw [hW1]; exact (Below.refl _ w).alloc (Nat.le_refl _) _
  have HF1 : Hid (Pf base w W1) := Pf.of_below hB1 hbase
  have HI1 : Hid (W1.heap[w.heap.size]? = some (.cells Z8 30 (0, 0))) := by rw [hW1]; exact heap_alloc_new w _
  have HQ1 : Hid (Pq base b m fx mn mx bt (c + 300 * ((K.take 0).flatMap (blk W0 k)).length) W1 ((K.drop 0).flatMap (blk W0 k) ++ rest) bs) := h.below hB1
  have HS1 : Hid (w.heap.size + 1 ≤ W1.heap.size) := by show _ ≤ _; rw [hW1, World.size_alloc]; exact Nat.le_refl _
  have HTb : Hid (∀ W, Below base w W → Tabs W) := hT
  have HG : Hid (Gd fx mn mx bt W0) := hg
  have HIh : Hid (1 ≤ k → DirOk base b m fx mn mx bt W0 k) := ih
  have Hmisc : Hid (p.length + (k + 1) = 9 ∧ (∀ s ∈ p, (47 : UInt8) ∉ s) ∧ (∀ y ∈ rest, y ∈ W0) ∧ Nb0 p rest ∧ c + 300 * (K.flatMap (blk W0 k)).length ≤ 800000000) := ⟨hpk, hps, hr, hn, hc⟩
  obtain ⟨N, hN⟩ : ∃ N, N = K.length := ⟨_, rfl⟩
  have HN : Hid (N = K.length) := hN
  clear hTd hR hK h hB1 hT hg ih hpk hps hr hn hc hN
  go_enter Tryz.func19, Tryz.ntmps19
  go_upto_region 1 with fail
  rw [← hW1]
  clear hW1
  go_wp2_with fail
  go_loopw [6] (fun v wr => ∃ (j : Nat) (l : List Nod) (bk : List Blb), j ≤ N ∧ l.length = j ∧ lenV v = j ∧
    Hid (T = ((Wk.things (cutF fx mn mx bt) (Wk.plantDir (cutF fx mn mx bt) (its W0) k) (its (K.drop j)) (pl bk)).1, nds l ++ (Wk.things (cutF fx mn mx bt) (Wk.plantDir (cutF fx mn mx bt) (its W0) k) (its (K.drop j)) (pl bk)).2.1, (Wk.things (cutF fx mn mx bt) (Wk.plantDir (cutF fx mn mx bt) (its W0) k) (its (K.drop j)) (pl bk)).2.2)) ∧
    Hid (Pq base b m fx mn mx bt (c + 300 * ((K.take j).flatMap (blk W0 k)).length) wr ((K.drop j).flatMap (blk W0 k) ++ rest) bk) ∧ Hid (Oy 7 80 NdG (w.heap.size + 1) wr v l) ∧ Hid (Pf base w wr) ∧ Hid (wr.heap[w.heap.size]? = some (.cells Z8 30 (0, 0)))) (fun v _ => N - lenV v)
  case atStart => exact ⟨0, [], bs, by omega, rfl, rfl, HT0, HQ1, Oy.nil, HF1, HI1⟩
  case round =>
    clear HT0 HQ1 HF1 HI1 HS1
    obtain ⟨j, l, bk, hj, hlj, hlv, HTj, HQ, HO, HF, HI⟩ := hrel
    by_cases hlt : j < N
    · have hjK : j < K.length := by rw [← HN.out]; exact hlt
      obtain ⟨x, hx⟩ : ∃ x, K[j]? = some x := ⟨_, List.getElem?_eq_getElem hjK⟩
      obtain ⟨hxW, s, hs⟩ := HKm.out x (List.mem_of_getElem? hx)
      have hok1 := HG.out.ok1 hxW
      have hxo := HG.out.ok x hxW
      obtain ⟨hpar, hnam⟩ := nms_last hs
      have hpc := fun W => parent_any x.path (Wk.par x.it) (Wk.nam x.it) W (path_parts hok1) (Wk.nam_slash hok1) (path_size hok1 hxo.path)
      rw [hpar] at hpc
      have hdrop : K.drop j = x :: K.drop (j + 1) := by rw [List.drop_eq_getElem_cons hjK, (List.getElem?_eq_some_iff.1 hx).2]
      obtain ⟨rr, hrr⟩ : ∃ rr, rr = (K.drop (j + 1)).flatMap (blk W0 k) ++ rest := ⟨_, rfl⟩
      have hleft : (K.drop j).flatMap (blk W0 k) ++ rest = x :: ((if x.it.dir then dI W0 k x.it.nms else []) ++ rr) := by
        rw [hdrop, List.flatMap_cons, hrr]; simp [blk]
      have HQx : Hid (Pq base b m fx mn mx bt (c + 300 * ((K.take j).flatMap (blk W0 k)).length) wr (x :: ((if x.it.dir then dI W0 k x.it.nms else []) ++ rr)) bk) := by rw [← hleft]; exact HQ.out
      obtain ⟨hq1, nq, hq2, hpl⟩ := HQx.out
      obtain ⟨⟨lv, bv, p1, p2, p3, p4⟩, hmp, ha, hm⟩ := hpl
      obtain ⟨la, lc, rfl, hlc1, hlc2⟩ := p2.slice
      obtain ⟨kb, ko, rfl, hkb, x0, x1, x2, x3, x4⟩ := p2.item 0 x rfl
      rw [Nat.zero_mul, Nat.add_zero] at x0 x1 x2 x3 x4
      obtain ⟨LL, hLL⟩ : ∃ LL, LL = (if x.it.dir then dI W0 k x.it.nms else []) ++ rr := ⟨_, rfl⟩
      rw [← hLL] at p2
      have hlv' := p2.rest
      obtain ⟨A1, hA1⟩ : ∃ A1, (if lc = 1 then some (⟨kb, ko, none⟩ : Addr) else some ⟨kb, ko + 5, none⟩) = A1 := ⟨_, rfl⟩
      have hA1b : ∀ a n c, Value.slice A1 LL.length (lc - 1) = .slice (some a) n c → LL ≠ [] → a.block < base := fun a n c e _ => by
        rw [← hA1] at e
        have hkb := p3 ⟨kb, ko, none⟩ _ _ rfl (by simp)
        split at e <;> (cases e; exact hkb)
      rw [hA1] at hlv'
      have hPl : Plt base b m fx mn mx bt wr (x :: LL) bk nq := by rw [hLL]; exact ⟨⟨_, bv, p1, by rw [← hLL]; exact p2, p3, p4⟩, hmp, ha, hm⟩
      obtain ⟨hs4, hs5, hs6⟩ := hPl.set4 (.slice A1 LL.length (lc - 1)) hlv' hA1b
      obtain ⟨WA, hWA⟩ : ∃ WA, WA = (wr.setCell ⟨b, 4, none⟩ (.slice A1 LL.length (lc - 1))).alloc (.cells #[.string x.path, .int .i64 x.kind, .int .i64 x.mode, .int .i64 x.time, .string x.bytes] 36) := ⟨_, rfl⟩
      have hbs : base ≤ (wr.setCell ⟨b, 4, none⟩ (.slice A1 LL.length (lc - 1))).heap.size := Nat.le_trans hbase (Nat.le_trans HF.out.size hs5.size)
      have hbA : Below (wr.setCell ⟨b, 4, none⟩ (.slice A1 LL.length (lc - 1))).heap.size (wr.setCell ⟨b, 4, none⟩ (.slice A1 LL.length (lc - 1))) WA := by rw [hWA]; exact (Below.refl _ _).alloc (Nat.le_refl _) _
      have HFA : Hid (Pf base wr WA) := (Pf.of_pl hs5 hs6).trans (Pf.of_below hbA hbs)
      have HQA : Hid (Pq base b m fx mn mx bt (c + 300 * ((K.take j).flatMap (blk W0 k)).length) WA ((if x.it.dir then dI W0 k x.it.nms else []) ++ rr) bk) := by
        rw [← hLL]
        exact ⟨hq1, nq, hq2, hs4.below hbA⟩
      obtain ⟨tf1, tf2⟩ := take_flat (f := blk W0 k) hx
      obtain ⟨t, ht⟩ : ∃ t, t = Wk.thing (cutF fx mn mx bt) (Wk.plantDir (cutF fx mn mx bt) (its W0) k) x.it (pl bk) := ⟨_, rfl⟩
      have HTs := things_step hx HTj.out
      rw [← ht] at HTs
      have HTS1 : Hid (t.2.2 ≠ 0 → T.2.2 = t.2.2) := HTs.1
      have HTS2 : Hid (t.2.2 = 0 → T = ((Wk.things (cutF fx mn mx bt) (Wk.plantDir (cutF fx mn mx bt) (its W0) k) (its (K.drop (j + 1))) t.1).1, (nds l ++ [Wk.node x.it t.2.1]) ++ (Wk.things (cutF fx mn mx bt) (Wk.plantDir (cutF fx mn mx bt) (its W0) k) (its (K.drop (j + 1))) t.1).2.1, (Wk.things (cutF fx mn mx bt) (Wk.plantDir (cutF fx mn mx bt) (its W0) k) (its (K.drop (j + 1))) t.1).2.2)) := HTs.2
      have hrrW : ∀ y ∈ rr, y ∈ W0 := fun y hy => by
        rw [hrr] at hy
        rcases List.mem_append.1 hy with q | q
        · obtain ⟨z, hz, hyz⟩ := List.mem_flatMap.1 q
          exact mem_blk (HKm.out z (List.mem_of_mem_drop hz)).1 hyz
        · exact Hmisc.out.2.2.1 y q
      have hnode := node_any HG.out HIh.out hxW hs Hmisc.out.1 rr hrrW (fun _ => by rw [hrr]; exact nb_sub (fun y hy => (HKm.out y (List.mem_of_mem_drop hy)).2) Hmisc.out.2.2.2.1) bk WA (by have := Hmisc.out.2.2.2.2; omega) HQA.out (fun W hW => HTb.out W ((HF.out.low.trans HFA.out.low).trans hW)) t ht
      have Hcj : Hid (c + 300 * ((K.take (j + 1)).flatMap (blk W0 k)).length = c + 300 * ((K.take j).flatMap (blk W0 k)).length + 300 * (blk W0 k x).length) := by show _ = _; omega
      rw [← Hcj.out] at hnode
      have HRr : Hid (rr = (K.drop (j + 1)).flatMap (blk W0 k) ++ rest) := hrr
      obtain ⟨d0, d1, d2, d3, d4, d5, d6, dlt⟩ := sev_at p1
      have d4f := free_at p1 4
      rw [← hLL] at d4
      have heq : ((mkB (Nn.tails p)).toList == (mkB (Nn.tails p)).toList) = true := by simp
      have hpc' : ∀ W, Calls Tryz.prog 32 #[.string x.path] W fun e w' => e = .returned (.string (mkB (Nn.tails p))) ∧ w' = W := hpc
      generalize mkB (Nn.tails p) = PS at *
      obtain ⟨xp, xk, xm, xt, xb⟩ := x
      dsimp only at *
      rw [List.length_cons] at d4 hlc1
      generalize LL.length = LN at *
      clear hpc HTs tf1 tf2 hs4 hs5 hs6 hbs hbA hPl hlv' hA1b p1 p2 p3 p4 hmp hq1 hq2 hrr hLL hleft hdrop hxo hok1 hpar hnam ht hjK hrrW HQx HQ HTj ha hm hs hxW
      go_wp2_with fail
      refine (hpc' _).mono ?_
      rintro e u ⟨rfl, hu⟩
      obtain rfl := hu.symm
      clear hpc' hu
      go_wp2_with fail
      rw [← hWA]
      refine hnode.mono ?_
      rintro e w3 ⟨n, a, q, q', rfl, f3, hz⟩
      have HF3 : Hid (Pf base w w3) := (HF.out.trans HFA.out).trans f3
      have HO3 : Hid (Oy 7 80 NdG (w.heap.size + 1) w3 u6 l) := (HO.out.pf HFA.out).pf f3
      have hI3 : w3.heap[w.heap.size]? = some (.cells Z8 30 (0, 0)) := f3.cells (HFA.out.cells HI.out (by decide) (by decide)) (by decide) (by decide)
      have HI3 : Hid (w3.heap[w.heap.size]? = some (.cells Z8 30 (0, 0))) := hI3
      have hs3 : w.heap.size + 1 ≤ w3.heap.size := (Array.getElem?_eq_some_iff.1 hI3).1
      obtain ⟨nn, nk, nm, nt, ns, np, nl⟩ := n
      dsimp only [ndC] at *
      clear hWA hnode f3 HF HFA HO HI d0 d1 d2 d3 d4 d5 d6 d4f x0 x1 x2 x3 x4 heq dlt hA1 hlc1 hlc2 hkb
      by_cases hE : t.2.2 = 0
      · obtain ⟨hq, hnd, hng, bk', hb1, hb2⟩ := hz hE
        have hT2 := HTS2.out hE
        rw [← hnd, ← hb1] at hT2
        rw [hE]
        have HT2 : Hid (T = ((Wk.things (cutF fx mn mx bt) (Wk.plantDir (cutF fx mn mx bt) (its W0) k) (its (K.drop (j + 1))) (pl bk')).1, nds (l ++ [⟨nn, nk, nm, nt, ns, np, nl⟩]) ++ (Wk.things (cutF fx mn mx bt) (Wk.plantDir (cutF fx mn mx bt) (its W0) k) (its (K.drop (j + 1))) (pl bk')).2.1, (Wk.things (cutF fx mn mx bt) (Wk.plantDir (cutF fx mn mx bt) (its W0) k) (its (K.drop (j + 1))) (pl bk')).2.2)) := by
          show _ = _
          rw [hT2]; simp [nds]
        have HQ3 : Hid (Pq base b m fx mn mx bt (c + 300 * ((K.take (j + 1)).flatMap (blk W0 k)).length) w3 ((K.drop (j + 1)).flatMap (blk W0 k) ++ rest) bk') := by rw [← HRr.out]; exact hb2
        obtain ⟨cc, o1, o2, o2l, o4⟩ := HO3.out
        have HO4 : Hid ((∀ c ∈ cc, c.length = 7) ∧ cc.length = l.length ∧ ∀ (j : Nat) t c, l[j]? = some t → cc[j]? = some c → NdG w3 t c) := ⟨o2, o2l, o4⟩
        have HNg : Hid (NdG w3 ⟨nn, nk, nm, nt, ns, np, nl⟩ [.string nn, .int .i64 nk, .int .i64 nm, .int .i64 nt, .int .i64 ns, .slice a q q', .string nl]) := hng
        have hl64 : l.length ≤ 100000000000 := by
          have h1 := HF3.out.size
          have h2 := Hmisc.out.2.2.2.2
          have h3 : K.length ≤ (K.flatMap (blk W0 k)).length := by
            have : ∀ L : List Im, L.length ≤ (L.flatMap (blk W0 k)).length := fun L => by
              induction L with
              | nil => simp
              | cons y L ih => rw [List.flatMap_cons, List.length_append, List.length_cons]; have : 1 ≤ (blk W0 k y).length := by simp [blk]
                               omega
            exact this K
          have h4 := HN.out
          omega
        clear hz hT2 hnd hb1 hb2 hng HTS1 HTS2 o2 o2l o4 HQA hI3 hq hE
        go_wp2_with (at_builtin; refine wpList_append_own _ rfl (.tmp 54) (.tmp 56) 77 rfl (w.heap.size + 1) 80 i0 (.agg #[.string ⟨#[]⟩, .int .i64 0, .int .i64 0, .int .i64 0, .int .i64 0, .slice none 0 0, .string ⟨#[]⟩]) 7 88 Tryz.underlying77 hi hz0 hz1 hz2 rfl (by decide) _ _ _ rfl ((o1.alloc _).alloc _) ⟨w3.heap.size + 1, 0, none⟩ 1 1 [.string nn, .int .i64 nk, .int .i64 nm, .int .i64 nt, .int .i64 ns, .slice a q q', .string nl] rfl rfl ?c1 ?c2 ?c3 ?c4 ?c5 ?_)
        case c1 => have := seven_new (w3.alloc (.cells #[.string nn, .int .i64 nk, .int .i64 nm, .int .i64 nt, .int .i64 ns, .slice a q q', .string nl] 80)) (.string nn) (.int .i64 nk) (.int .i64 nm) (.int .i64 nt) (.int .i64 ns) (.slice a q q') (.string nl) (T := 80); rwa [World.size_alloc] at this
        case c2 => simp [Value.oneCell']
        case c3 => unfold maxLen; omega
        case c4 => omega
        case c5 => first | omega | (simp; omega)
        intro v6 w5 hown5 hgrow _
        have o1' := (o1.alloc (.cells #[.string nn, .int .i64 nk, .int .i64 nm, .int .i64 nt, .int .i64 ns, .slice a q q', .string nl] 80)).alloc (.cells #[.string nn, .int .i64 nk, .int .i64 nm, .int .i64 nt, .int .i64 ns, .slice a q q', .string nl] 80)
        have hk5 : Kt 80 w3 w5 := (((Kt.refl _ w3).alloc _).alloc _).trans (Kt.of_grown hgrow fun g hg => by
          obtain ⟨cur, q, _⟩ := own_block o1' hg
          exact ⟨cur, _, q⟩)
        have hb5 : Below (w.heap.size + 1) w3 w5 := (((Below.refl _ w3).alloc hs3 _).alloc (by rw [World.size_alloc]; omega) _).grown hgrow (by rw [World.size_alloc, World.size_alloc]; omega) fun q hq => (o1'.lt q hq).1
        have HF5 : Hid (Pf base w w5) := HF3.out.then (hb5.mono (by omega)) hbase
        have HQ5 : Hid (Pq base b m fx mn mx bt (c + 300 * ((K.take (j + 1)).flatMap (blk W0 k)).length) w5 ((K.drop (j + 1)).flatMap (blk W0 k) ++ rest) bk') := HQ3.out.kt hk5 (hb5.mono (by omega)) (by decide) (by decide)
        have HI5 : Hid (w5.heap[w.heap.size]? = some (.cells Z8 30 (0, 0))) := hk5.cell HI3.out (by decide)
        have HOn : Hid (Oy 7 80 NdG (w.heap.size + 1) w5 v6 (l ++ [⟨nn, nk, nm, nt, ns, np, nl⟩])) := Oy.more HO4.out.1 HO4.out.2.1 (fun j t c a b => NdG.kt hk5 (HO4.out.2.2 j t c a b)) (by rw [hlj]; exact hown5) rfl (NdG.kt hk5 HNg.out)
        have hlv6 : lenV v6 = j + 1 := by
          obtain ⟨a6, c6, e6⟩ := own_form hown5
          rw [e6]
          rfl
        have hlj6 : (l ++ [(⟨nn, nk, nm, nt, ns, np, nl⟩ : Nod)]).length = j + 1 := by rw [List.length_append, hlj]; rfl
        obtain ⟨a6, c6, e6⟩ := own_form hown5
        subst e6
        clear hown5 hgrow hk5 hb5 o1 o1' HO4 HNg HF3 HI3 HQ3 HO3 Hcj HRr
        go_wp2_with fail
        go_roundw
        case measure =>
          show N - lenV _ < N - lenV _
          rw [hlv]
          have : lenV (.slice a6 (j + 1) c6) = j + 1 := hlv6
          first | omega | (rw [this]; omega)
        case rel => exact ⟨j + 1, _, bk', by omega, hlj6, hlv6, HT2, HQ5, HOn, HF5, HI5⟩
      · have hT2 := HTS1.out hE
        have hRe : R = ([], [], t.2.2) := by rw [HRR.out, if_pos (by rw [hT2]; exact hE), hT2]
        clear HRR
        obtain ⟨ER, hER⟩ : ∃ ER, t.2.2 = ER := ⟨_, rfl⟩
        rw [hER] at hRe hE ⊢
        subst hRe
        have hne : (ER != 0) = true := by rw [bne_iff_ne]; exact hE
        have HE : Hid (ER ≠ 0) := hE
        have hwl : w.heap.size < w3.heap.size := by omega
        obtain ⟨z0, z1, z2, z3, z4, z5, z6, z7⟩ := I8.cells (b0 := 0) (b1 := 0) (b2 := 0) (b3 := 0) (b4 := 0) (b5 := 0) (b6 := 0) (b7 := 0) (I8.zero hI3)
        obtain ⟨f0, f1, f2, f3, f4, f5, f6, f7⟩ := (I8.zero hI3).free
        have HB9 : Hid (Below w.heap.size w3 ((set8 w3 w.heap.size 0 0 0 0 0 0 0 0).alloc (.cells #[.string nn, .int .i64 nk, .int .i64 nm, .int .i64 nt, .int .i64 ns, .slice a q q', .string nl] 80))) := by
          have hb := below_set8 (Below.refl w.heap.size w3) (Nat.le_refl _) 0 0 0 0 0 0 0 0
          exact hb.alloc (Nat.le_trans (Nat.le_of_lt hwl) hb.size) _
        clear hER hz HTS1 HTS2 hE hT2 hI3 HQA
        go_wp2_with fail
        refine bodyPost_ret (v := .tuple #[.agg #[B 0, B 0, B 0, B 0, B 0, B 0, B 0, B 0], .int .i64 ER]) ?_ rfl ⟨List.replicate 8 0, rfl, rfl, HF3.out.then HB9.out hbase, fun e => absurd e HE.out⟩
        have hres : Tryz.f19.results = #[.cell 4 30, .tmp 5] := by kernel_rfl
        simp only [results, hres]
        go_simp
        rfl
    · obtain rfl : j = N := by omega
      have hdN : K.drop j = [] := by rw [HN.out]; exact List.drop_of_length_le (Nat.le_refl _)
      have htN : K.take j = K := by rw [HN.out]; exact List.take_of_length_le (Nat.le_refl _)
      have hTz : T = (pl bk, nds l, 0) := by
        rw [HTj.out, hdN]
        simp [its, Wk.things]
      have hRx : R = if (Td.write (nds l)).2 ≠ 0 then ([], [], (Td.write (nds l)).2) else Wk.into (pl bk) (2, (Td.write (nds l)).1) := by
        rw [HRR.out, hTz]
        simp
      have HQz : Hid (Pq base b m fx mn mx bt (c + 300 * (K.flatMap (blk W0 k)).length) wr rest bk) := by
        have := HQ.out
        rw [hdN, htN] at this
        exact this
      have HRx : Hid (R = if (Td.write (nds l)).2 ≠ 0 then ([], [], (Td.write (nds l)).2) else Wk.into (pl bk) (2, (Td.write (nds l)).1)) := hRx
      clear hRx hTz hdN htN HTj HQ HRR
      obtain ⟨hq1, nq, hq2, hpl⟩ := HQz.out
      obtain ⟨⟨lv, bv, p1, p2, p3, p4⟩, hmp, ha, hm⟩ := hpl
      obtain ⟨d0, d1, d2, d3, d4, d5, d6, dlt⟩ := sev_at p1
      have htw := twrite_any u6 l wr (Nds.of_oy HO.out) (by
        have h4 := HN.out
        have h2 := Hmisc.out.2.2.2.2
        have h3 : ∀ L : List Im, L.length ≤ (L.flatMap (blk W0 k)).length := fun L => by
          induction L with
          | nil => simp
          | cons y L ih => rw [List.flatMap_cons, List.length_append, List.length_cons]; have : 1 ≤ (blk W0 k y).length := by simp [blk]
                           omega
        have := h3 K
        omega) (HTb.out wr HF.out.low)
      generalize hTW : Td.write (nds l) = TW at *
      have hTWs : (⟨TW.1.toArray⟩ : ByteArray).size ≤ 9223372036854775807 := by rw [← hTW]; exact write_size l
      clear hTW
      have hbw : base ≤ wr.heap.size := Nat.le_trans hbase HF.out.size
      obtain ⟨na, nc, eu⟩ := HO.out.ry.slice
      subst eu
      rw [hlj] at htw
      cases rest with
      | nil =>
        obtain ⟨la, lc, rfl, hlc1, hlc2⟩ := p2.slice
        rw [List.length_nil] at d4
        clear p1 p2 p3 p4 hmp hq1 hq2
        go_wp2_with fail
        refine htw.mono ?_
        rintro e w4 ⟨rfl, b4⟩
        have HF4 : Hid (Pf base w w4) := HF.out.trans (Pf.of_below b4 hbw)
        have hI4 : w4.heap[w.heap.size]? = some (.cells Z8 30 (0, 0)) := (b4.block _ (Array.getElem?_eq_some_iff.1 HI.out).1).trans HI.out
        have HI4 : Hid (w4.heap[w.heap.size]? = some (.cells Z8 30 (0, 0))) := hI4
        have hwl : w.heap.size < w4.heap.size := (Array.getElem?_eq_some_iff.1 hI4).1
        by_cases hE : TW.2 = 0
        · have HQ4 := HQz.out.below b4
          have hRy : R = Wk.into (pl bk) (2, TW.1) := by rw [HRx.out, if_neg (fun q => q hE)]
          have htell := tell_q base b m (c + 300 * (K.flatMap (blk W0 k)).length) fx mn mx bt _ bk ⟨2, ⟨TW.1.toArray⟩⟩ w4 HQ4 (by have := Hmisc.out.2.2.2.2; omega) hTWs
          have hEI : errI bk ⟨2, ⟨TW.1.toArray⟩⟩ = R.2.2 := by rw [hRy]; rfl
          obtain ⟨b0, b1, b2, b3, b4', b5, b6, b7, hL⟩ := eight _ (idI_length bk ⟨2, ⟨TW.1.toArray⟩⟩)
          have HRz : Hid (R.2.2 = 0 → [b0, b1, b2, b3, b4', b5, b6, b7] = R.2.1 ∧ R.1 = pl (more bk ⟨2, ⟨TW.1.toArray⟩⟩)) := fun h0 => by
            have hE0 : errI bk ⟨2, ⟨TW.1.toArray⟩⟩ = 0 := by rw [hEI]; exact h0
            have hm := more_pl hE0
            have e1 : (⟨2, ⟨TW.1.toArray⟩⟩ : Blb).p = (2, TW.1) := rfl
            rw [e1, ← hRy] at hm
            rw [← hL]
            unfold idI
            rw [if_pos hE0, hm]
            exact ⟨rfl, rfl⟩
          rw [hL, hEI] at htell
          have htell' : Calls Tryz.prog 35 #[.pointer (some ⟨b, 0, none⟩), .agg #[.int .i64 2, .string ⟨TW.1.toArray⟩]] w4 fun e w' => e = .returned (.tuple #[.agg #[.int .u8 (b0.toNat : Int), .int .u8 (b1.toNat : Int), .int .u8 (b2.toNat : Int), .int .u8 (b3.toNat : Int), .int .u8 (b4'.toNat : Int), .int .u8 (b5.toNat : Int), .int .u8 (b6.toNat : Int), .int .u8 (b7.toNat : Int)], .int .i64 R.2.2]) ∧ Pq base b m fx mn mx bt (c + 300 * (K.flatMap (blk W0 k)).length + 1) w' _ (more bk ⟨2, ⟨TW.1.toArray⟩⟩) ∧ Pf base w4 w' := htell
          generalize more bk ⟨2, ⟨TW.1.toArray⟩⟩ = MB at *
          rw [hE]
          clear htell hL hEI hRy HRx htw b4 hI4 HQ4 HQz HF HI
          go_wp2_with fail
          refine htell'.mono ?_
          rintro e w5 ⟨rfl, q5, pf5⟩
          have hI5 : w5.heap[w.heap.size]? = some (.cells Z8 30 (0, 0)) := pf5.cells HI4.out (by decide) (by decide)
          obtain ⟨z0, z1, z2, z3, z4, z5, z6, z7⟩ := I8.cells (b0 := 0) (b1 := 0) (b2 := 0) (b3 := 0) (b4 := 0) (b5 := 0) (b6 := 0) (b7 := 0) (I8.zero hI5)
          obtain ⟨f0, f1, f2, f3, f4, f5, f6, f7⟩ := (I8.zero hI5).free
          have HF5 : Hid (Pf base w w5) := HF4.out.trans pf5
          have HB9 : Hid (Below w.heap.size w5 (set8 w5 w.heap.size b0 b1 b2 b3 b4' b5 b6 b7)) := below_set8 (Below.refl _ _) (Nat.le_refl _) _ _ _ _ _ _ _ _
          have HQ9 : Hid (Pq base b m fx mn mx bt (c + 300 * (K.flatMap (blk W0 k)).length + 1) (set8 w5 w.heap.size b0 b1 b2 b3 b4' b5 b6 b7) _ MB) := q5.kt (I8.kt8 hI5 _ _ _ _ _ _ _ _) (HB9.out.mono hbase) (by decide) (by decide)
          clear htell' q5 pf5 hI5
          go_wp2_with fail
          refine bodyPost_ret (v := .tuple #[.agg #[B b0, B b1, B b2, B b3, B b4', B b5, B b6, B b7], .int .i64 R.2.2]) ?_ rfl ⟨[b0, b1, b2, b3, b4', b5, b6, b7], rfl, rfl, HF5.out.then HB9.out hbase, fun h0 => ⟨(HRz.out h0).1, MB, (HRz.out h0).2.symm, HQ9.out⟩⟩
          have hres : Tryz.f19.results = #[.cell 4 30, .tmp 5] := by kernel_rfl
          simp only [results, hres]
          go_simp
          exact ⟨rfl, rfl, rfl, rfl, rfl, rfl, rfl, rfl⟩
        · have hRe : R = ([], [], TW.2) := by rw [HRx.out, if_pos hE]
          clear HRx
          obtain ⟨ER, hER⟩ : ∃ ER, TW.2 = ER := ⟨_, rfl⟩
          rw [hER] at hRe hE ⊢
          subst hRe
          have hne : (ER != 0) = true := by rw [bne_iff_ne]; exact hE
          have HE : Hid (ER ≠ 0) := hE
          obtain ⟨z0, z1, z2, z3, z4, z5, z6, z7⟩ := I8.cells (b0 := 0) (b1 := 0) (b2 := 0) (b3 := 0) (b4 := 0) (b5 := 0) (b6 := 0) (b7 := 0) (I8.zero hI4)
          obtain ⟨f0, f1, f2, f3, f4, f5, f6, f7⟩ := (I8.zero hI4).free
          have HB9 : Hid (Below w.heap.size w4 (set8 w4 w.heap.size 0 0 0 0 0 0 0 0)) := below_set8 (Below.refl _ _) (Nat.le_refl _) _ _ _ _ _ _ _ _
          clear hER hE htw b4 hI4 HQz
          go_wp2_with fail
          refine bodyPost_ret (v := .tuple #[.agg #[B 0, B 0, B 0, B 0, B 0, B 0, B 0, B 0], .int .i64 ER]) ?_ rfl ⟨List.replicate 8 0, rfl, rfl, HF4.out.then HB9.out hbase, fun e => absurd e HE.out⟩
          have hres : Tryz.f19.results = #[.cell 4 30, .tmp 5] := by kernel_rfl
          simp only [results, hres]
          go_simp
          rfl
      | cons y rest =>
        have hyW : y ∈ W0 := Hmisc.out.2.2.1 y List.mem_cons_self
        have hok1 := HG.out.ok1 hyW
        have hyo := HG.out.ok y hyW
        have hpc := fun W => parent_any y.path (Wk.par y.it) (Wk.nam y.it) W (path_parts hok1) (Wk.nam_slash hok1) (path_size hok1 hyo.path)
        have hneq : ¬ (mkB (Wk.par y.it)) = mkB (Nn.tails p) := fun e => by
          have e1 : Wk.par y.it = Nn.tails p := by
            have := congrArg (fun z : ByteArray => z.data.toList) e
            simpa [mkB] using this
          have e2 : y.it.nms.dropLast = p := tails_inj (fun s hs => nms_noslash hok1 s (List.dropLast_subset _ hs)) Hmisc.out.2.1 e1
          have e3 := Wk.nms_snoc hok1
          rw [e2] at e3
          exact Hmisc.out.2.2.2.1 y rfl ⟨_, by simp, e3⟩
        have heq := text_ne hneq
        have hpc' : ∀ W, Calls Tryz.prog 32 #[.string y.path] W fun e w' => e = .returned (.string (mkB (Wk.par y.it))) ∧ w' = W := hpc
        obtain ⟨la, lc, rfl, hlc1, hlc2⟩ := p2.slice
        obtain ⟨kb, ko, rfl, hkb, x0, x1, x2, x3, x4⟩ := p2.item 0 y rfl
        rw [Nat.zero_mul, Nat.add_zero] at x0 x1 x2 x3 x4
        rw [List.length_cons] at d4 hlc1
        generalize mkB (Nn.tails p) = PS at *
        generalize mkB (Wk.par y.it) = PY at *
        generalize hrl : rest.length = LN at *
        clear p1 p2 p3 p4 hmp hq1 hq2 hpc hneq hok1 hyo hyW hrl
        go_wp2_with fail
        refine (hpc' _).mono ?_
        rintro e u ⟨rfl, hu⟩
        obtain rfl := hu.symm
        clear hpc' hu x0 x1 x2 x3 x4
        go_wp2_with fail
        refine htw.mono ?_
        rintro e w4 ⟨rfl, b4⟩
        have HF4 : Hid (Pf base w w4) := HF.out.trans (Pf.of_below b4 hbw)
        have hI4 : w4.heap[w.heap.size]? = some (.cells Z8 30 (0, 0)) := (b4.block _ (Array.getElem?_eq_some_iff.1 HI.out).1).trans HI.out
        have HI4 : Hid (w4.heap[w.heap.size]? = some (.cells Z8 30 (0, 0))) := hI4
        have hwl : w.heap.size < w4.heap.size := (Array.getElem?_eq_some_iff.1 hI4).1
        by_cases hE : TW.2 = 0
        · have HQ4 := HQz.out.below b4
          have hRy : R = Wk.into (pl bk) (2, TW.1) := by rw [HRx.out, if_neg (fun q => q hE)]
          have htell := tell_q base b m (c + 300 * (K.flatMap (blk W0 k)).length) fx mn mx bt _ bk ⟨2, ⟨TW.1.toArray⟩⟩ w4 HQ4 (by have := Hmisc.out.2.2.2.2; omega) hTWs
          have hEI : errI bk ⟨2, ⟨TW.1.toArray⟩⟩ = R.2.2 := by rw [hRy]; rfl
          obtain ⟨b0, b1, b2, b3, b4', b5, b6, b7, hL⟩ := eight _ (idI_length bk ⟨2, ⟨TW.1.toArray⟩⟩)
          have HRz : Hid (R.2.2 = 0 → [b0, b1, b2, b3, b4', b5, b6, b7] = R.2.1 ∧ R.1 = pl (more bk ⟨2, ⟨TW.1.toArray⟩⟩)) := fun h0 => by
            have hE0 : errI bk ⟨2, ⟨TW.1.toArray⟩⟩ = 0 := by rw [hEI]; exact h0
            have hm := more_pl hE0
            have e1 : (⟨2, ⟨TW.1.toArray⟩⟩ : Blb).p = (2, TW.1) := rfl
            rw [e1, ← hRy] at hm
            rw [← hL]
            unfold idI
            rw [if_pos hE0, hm]
            exact ⟨rfl, rfl⟩
          rw [hL, hEI] at htell
          have htell' : Calls Tryz.prog 35 #[.pointer (some ⟨b, 0, none⟩), .agg #[.int .i64 2, .string ⟨TW.1.toArray⟩]] w4 fun e w' => e = .returned (.tuple #[.agg #[.int .u8 (b0.toNat : Int), .int .u8 (b1.toNat : Int), .int .u8 (b2.toNat : Int), .int .u8 (b3.toNat : Int), .int .u8 (b4'.toNat : Int), .int .u8 (b5.toNat : Int), .int .u8 (b6.toNat : Int), .int .u8 (b7.toNat : Int)], .int .i64 R.2.2]) ∧ Pq base b m fx mn mx bt (c + 300 * (K.flatMap (blk W0 k)).length + 1) w' _ (more bk ⟨2, ⟨TW.1.toArray⟩⟩) ∧ Pf base w4 w' := htell
          generalize more bk ⟨2, ⟨TW.1.toArray⟩⟩ = MB at *
          rw [hE]
          clear htell hL hEI hRy HRx htw b4 hI4 HQ4 HQz HF HI
          go_wp2_with fail
          refine htell'.mono ?_
          rintro e w5 ⟨rfl, q5, pf5⟩
          have hI5 : w5.heap[w.heap.size]? = some (.cells Z8 30 (0, 0)) := pf5.cells HI4.out (by decide) (by decide)
          obtain ⟨z0, z1, z2, z3, z4, z5, z6, z7⟩ := I8.cells (b0 := 0) (b1 := 0) (b2 := 0) (b3 := 0) (b4 := 0) (b5 := 0) (b6 := 0) (b7 := 0) (I8.zero hI5)
          obtain ⟨f0, f1, f2, f3, f4, f5, f6, f7⟩ := (I8.zero hI5).free
          have HF5 : Hid (Pf base w w5) := HF4.out.trans pf5
          have HB9 : Hid (Below w.heap.size w5 (set8 w5 w.heap.size b0 b1 b2 b3 b4' b5 b6 b7)) := below_set8 (Below.refl _ _) (Nat.le_refl _) _ _ _ _ _ _ _ _
          have HQ9 : Hid (Pq base b m fx mn mx bt (c + 300 * (K.flatMap (blk W0 k)).length + 1) (set8 w5 w.heap.size b0 b1 b2 b3 b4' b5 b6 b7) _ MB) := q5.kt (I8.kt8 hI5 _ _ _ _ _ _ _ _) (HB9.out.mono hbase) (by decide) (by decide)
          clear htell' q5 pf5 hI5
          go_wp2_with fail
          refine bodyPost_ret (v := .tuple #[.agg #[B b0, B b1, B b2, B b3, B b4', B b5, B b6, B b7], .int .i64 R.2.2]) ?_ rfl ⟨[b0, b1, b2, b3, b4', b5, b6, b7], rfl, rfl, HF5.out.then HB9.out hbase, fun h0 => ⟨(HRz.out h0).1, MB, (HRz.out h0).2.symm, HQ9.out⟩⟩
          have hres : Tryz.f19.results = #[.cell 4 30, .tmp 5] := by kernel_rfl
          simp only [results, hres]
          go_simp
          exact ⟨rfl, rfl, rfl, rfl, rfl, rfl, rfl, rfl⟩
        · have hRe : R = ([], [], TW.2) := by rw [HRx.out, if_pos hE]
          clear HRx
          obtain ⟨ER, hER⟩ : ∃ ER, TW.2 = ER := ⟨_, rfl⟩
          rw [hER] at hRe hE ⊢
          subst hRe
          have hne : (ER != 0) = true := by rw [bne_iff_ne]; exact hE
          have HE : Hid (ER ≠ 0) := hE
          obtain ⟨z0, z1, z2, z3, z4, z5, z6, z7⟩ := I8.cells (b0 := 0) (b1 := 0) (b2 := 0) (b3 := 0) (b4 := 0) (b5 := 0) (b6 := 0) (b7 := 0) (I8.zero hI4)
          obtain ⟨f0, f1, f2, f3, f4, f5, f6, f7⟩ := (I8.zero hI4).free
          have HB9 : Hid (Below w.heap.size w4 (set8 w4 w.heap.size 0 0 0 0 0 0 0 0)) := below_set8 (Below.refl _ _) (Nat.le_refl _) _ _ _ _ _ _ _ _
          clear hER hE htw b4 hI4 HQz
          go_wp2_with fail
          refine bodyPost_ret (v := .tuple #[.agg #[B 0, B 0, B 0, B 0, B 0, B 0, B 0, B 0], .int .i64 ER]) ?_ rfl ⟨List.replicate 8 0, rfl, rfl, HF4.out.then HB9.out hbase, fun e => absurd e HE.out⟩
          have hres : Tryz.f19.results = #[.cell 4 30, .tmp 5] := by kernel_rfl
          simp only [results, hres]
          go_simp
          rfl

end Go.Proofs.YtimdioacmojkeabGreatDoor

namespace Go.Proofs.YtimdioacmojkeabGreatDoor
open Go.RowKit
set_option maxRecDepth 4000

/-- texts as lists of bytes -/
def dl (l : List ByteArray) : List Nn.Name := l.map (·.data.toList)
/-- no slice is longer than its room -/
def Cp (v : Value) : Prop := ∀ a n c, v = .slice a n c → n ≤ c
theorem Cp.none : Cp (.slice none 0 0) := fun a n c h => by cases h; exact Nat.le_refl _
theorem Cp.of_own {base : Nat} {e : TypeId} {w : World} {v : Value} {n : Nat} {xs : List Value} (h : w.ownsRow base e 1 v n xs) : Cp v := fun a m c hv => by
  rcases h.2 with ⟨rfl, h0⟩ | ⟨g, cap, cur, rfl, _, _, hle, _⟩
  · cases hv; exact Nat.le_refl _
  · cases hv; exact hle
/-- no text is longer than a text may be -/
def Few (l : List ByteArray) : Prop := ∀ s ∈ l, s.size ≤ 9223372036854775807
theorem dl_length (l : List ByteArray) : (dl l).length = l.length := by simp [dl]
theorem errsF_drop (l : List ByteArray) (k : Nat) (hk : k < l.length) : Nn.errsF k (dl (l.drop k)) = if 8 ≤ k then 14 else if Nn.nm (l.getD k ByteArray.empty).data.toList ≠ 0 then Nn.nm (l.getD k ByteArray.empty).data.toList else Nn.errsF (k + 1) (dl (l.drop (k + 1))) := by
  rw [List.drop_eq_getElem_cons hk, List.getD_eq_getElem?_getD, List.getElem?_eq_getElem hk]
  rfl

set_option maxHeartbeats 1000000 in
theorem all_any (v : Value) (l : List ByteArray) (w : World) (h : Tx w v l) (hl : l.length ≤ 140737488351232) (hf : Few l) (hT : Tabs w) :
    Calls Tryz.prog 22 #[v] w fun e w' => e = .returned (.int .i64 (Nn.errs (dl l))) ∧ Below w.heap.size w w' := by
  obtain ⟨a, c, rfl⟩ := h.slice
  have HS : Hid (Nn.errsF 0 (dl (l.drop 0)) = Nn.errs (dl l)) := rfl
  have HX : Hid (Tx w (.slice a l.length c) l) := h
  have HF : Hid (Few l) := hf
  have HT : Hid (Tabs w) := hT
  clear h hf hT
  obtain ⟨N, hN⟩ : ∃ N, N = l.length := ⟨_, rfl⟩
  have HN : Hid (N = l.length) := hN
  rw [← hN] at HX hl ⊢
  clear hN
  generalize Nn.errs (dl l) = Z at *
  go_enter Tryz.func22, Tryz.ntmps22
  go_wp2_with fail
  go_loopw [8] (fun i wr => ∃ k : Nat, k ≤ N ∧ i = .int .i64 k ∧ Hid (Nn.errsF k (dl (l.drop k)) = Z) ∧ Hid (Below w.heap.size w wr)) (fun i _ => N - (intOf i).toNat)
  case atStart => exact ⟨0, by omega, rfl, HS, Below.refl _ _⟩
  case round =>
    clear HS
    obtain ⟨k, hk, rfl, HS, HB⟩ := hrel
    by_cases hlt : k < N
    · obtain ⟨bk, o, rfl, hbk, c0⟩ := (HX.out.below HB.out).get k (by rw [← HN.out]; omega)
      have hz : (l.getD k ByteArray.empty).size ≤ 9223372036854775807 := by
        have hk' : k < l.length := by rw [← HN.out]; exact hlt
        rw [List.getD_eq_getElem?_getD, List.getElem?_eq_getElem hk']
        exact HF.out _ (List.getElem_mem hk')
      have HD : Hid (Z = if 8 ≤ k then 14 else if Nn.nm (l.getD k ByteArray.empty).data.toList ≠ 0 then Nn.nm (l.getD k ByteArray.empty).data.toList else Nn.errsF (k + 1) (dl (l.drop (k + 1)))) := by
        show _ = _
        rw [← errsF_drop _ _ (by rw [← HN.out]; omega)]; exact HS.out.symm
      have hq := check_any (l.getD k ByteArray.empty) wr hz (HT.out.below HB.out)
      generalize l.getD k ByteArray.empty = s at *
      generalize Nn.nm s.data.toList = E at *
      clear HS
      by_cases h8 : 8 ≤ k
      · have HZ : Hid (Z = 14) := by have := HD.out; rwa [if_pos h8] at this
        clear hq
        go_wp2_with fail
        go_ret
        exact ⟨by rw [HZ.out]; rfl, HB.out⟩
      · by_cases h0 : E = 0
        · have HZ : Hid (Nn.errsF (k + 1) (dl (l.drop (k + 1))) = Z) := by have := HD.out; rw [if_neg h8, if_neg (by simpa using h0)] at this; exact this.symm
          rw [h0] at hq
          clear h0 HD
          go_wp2_with fail
          refine hq.mono ?_
          rintro e u ⟨rfl, bu⟩
          have HB2 : Hid (Below w.heap.size w u) := HB.out.trans (bu.mono HB.out.size)
          clear bu
          go_wp2_with fail
          go_roundw
          case rel => exact ⟨k + 1, by omega, by go_num, HZ, HB2⟩
          case measure => simp only [intOf]; omega
        · have HZ : Hid (Z = E) := by have := HD.out; rwa [if_neg h8, if_pos h0] at this
          have hqn : (E != 0) = true := by rw [bne_iff_ne]; exact h0
          clear HD
          go_wp2_with fail
          refine hq.mono ?_
          rintro e u ⟨rfl, bu⟩
          have HB2 : Hid (Below w.heap.size w u) := HB.out.trans (bu.mono HB.out.size)
          clear bu
          go_wp2_with fail
          go_ret
          exact ⟨by rw [HZ.out]; rfl, HB2.out⟩
    · have HZ : Hid (Z = 0) := by
        have := HS.out
        rw [List.drop_eq_nil_of_le (by rw [← HN.out]; omega)] at this
        exact this.symm
      obtain rfl : k = N := by omega
      go_wp2_with fail
      go_ret
      exact ⟨by rw [HZ.out]; rfl, HB.out⟩
end Go.Proofs.YtimdioacmojkeabGreatDoor

namespace Go.Proofs.YtimdioacmojkeabGreatDoor
namespace Nn
open Go.Lib

theorem ix_cases (c : UInt8) : ∀ l : List UInt8, (indexByte l c = -1 ∧ c ∉ l) ∨ ∃ i : Nat, indexByte l c = i ∧ i < l.length ∧ l = l.take i ++ c :: l.drop (i + 1) ∧ c ∉ l.take i
  | [] => .inl ⟨rfl, by simp⟩
  | b :: l => by
    by_cases h : b = c
    · subst h
      exact .inr ⟨0, by simp [indexByte], by simp, by simp, by simp⟩
    · have hb : (b == c) = false := beq_eq_false_iff_ne.2 h
      rcases ix_cases c l with ⟨e, hn⟩ | ⟨i, e, h1, h2, h3⟩
      · exact .inl ⟨by rw [indexByte, hb, e]; rfl, by simp [hn, Ne.symm h]⟩
      · refine .inr ⟨i + 1, ?_, by simp; omega, by rw [List.take_succ_cons, List.drop_succ_cons, List.cons_append, ← h2], by simp [h3, Ne.symm h]⟩
        rw [indexByte, hb, e, if_neg (by simp), if_neg (by rw [beq_iff_eq]; omega)]
        omega
theorem cut_none {l : List UInt8} (h : indexByte l 47 = -1) : cut l = [l] := by
  rcases ix_cases 47 l with ⟨_, hn⟩ | ⟨i, e, _⟩
  · exact cut_plain hn
  · rw [h] at e; omega
theorem cut_at {l : List UInt8} {i : Nat} (h : indexByte l 47 = i) : cut l = l.take i :: cut (l.drop (i + 1)) := by
  rcases ix_cases 47 l with ⟨e, _⟩ | ⟨j, e, _, h2, h3⟩
  · rw [h] at e; omega
  · obtain rfl : i = j := by rw [h] at e; omega
    conv => lhs; rw [h2]
    rw [cut_slash, cut_plain h3]
    rfl
/-- cut at most k times -/
def spn : Nat → List UInt8 → List Name
  | 0, l => [l]
  | k + 1, l => if indexByte l 47 = -1 then [l] else l.take (indexByte l 47).toNat :: spn k (l.drop ((indexByte l 47).toNat + 1))
theorem spn_none {k : Nat} {l : List UInt8} (h : indexByte l 47 = -1) : spn k l = [l] := by
  cases k with
  | zero => rfl
  | succ k => rw [spn, if_pos h]
theorem spn_at {k i : Nat} {l : List UInt8} (h : indexByte l 47 = i) : spn (k + 1) l = l.take i :: spn k (l.drop (i + 1)) := by
  rw [spn, if_neg (by omega), h]
  rfl
theorem spn_more : ∀ (k m : Nat) (l : List UInt8), l.length ≤ k → l.length ≤ m → spn k l = spn m l := by
  intro k
  induction k with
  | zero =>
    intro m l h1 h2
    have hl := List.length_eq_zero_iff.1 (Nat.le_zero.1 h1)
    subst hl
    rw [spn_none (by rfl), spn_none (by rfl)]
  | succ k ih =>
    intro m l h1 h2
    rcases ix_cases 47 l with ⟨e, _⟩ | ⟨i, e, hi, _⟩
    · rw [spn_none e, spn_none e]
    · obtain ⟨m, rfl⟩ : ∃ m', m = m' + 1 := ⟨m - 1, by omega⟩
      rw [spn_at e, spn_at e, ih m _ (by rw [List.length_drop]; omega) (by rw [List.length_drop]; omega)]
theorem errs_spn : ∀ (k i : Nat) (l : List UInt8), i + k = 8 → errsF i (spn k l) = errsF i (cut l) := by
  intro k
  induction k with
  | zero =>
    intro i l h
    obtain rfl : i = 8 := by omega
    have hc := cut_ne l
    cases hx : cut l with
    | nil => exact absurd hx hc
    | cons a b => rfl
  | succ k ih =>
    intro i l h
    rcases ix_cases 47 l with ⟨e, _⟩ | ⟨j, e, _⟩
    · rw [spn_none e, cut_none e]
    · rw [spn_at e, cut_at e, errsF, errsF, ih (i + 1) _ (by omega)]
theorem spn_cut : ∀ (k i : Nat) (l : List UInt8), i + k = 8 → errsF i (cut l) = 0 → spn k l = cut l := by
  intro k
  induction k with
  | zero =>
    intro i l h h0
    obtain rfl : i = 8 := by omega
    have hc := cut_ne l
    cases hx : cut l with
    | nil => exact absurd hx hc
    | cons a b => rw [hx, errsF] at h0; simp at h0
  | succ k ih =>
    intro i l h h0
    rcases ix_cases 47 l with ⟨e, _⟩ | ⟨j, e, _⟩
    · rw [spn_none e, cut_none e]
    · rw [cut_at e, errsF, if_neg (by omega)] at h0
      rw [spn_at e, cut_at e]
      split at h0
      · rename_i q; exact absurd h0 q
      · rw [ih (i + 1) _ (by omega) h0]
/-- the same of texts -/
def spB : Nat → ByteArray → List ByteArray
  | 0, s => [s]
  | k + 1, s => if indexByte s.data.toList 47 = -1 then [s] else s.extract 0 (indexByte s.data.toList 47).toNat :: spB k (s.extract ((indexByte s.data.toList 47).toNat + 1) s.size)
theorem spB_none {k : Nat} {s : ByteArray} (h : indexByte s.data.toList 47 = -1) : spB k s = [s] := by
  cases k with
  | zero => rfl
  | succ k => rw [spB, if_pos h]
theorem spB_at {k i : Nat} {s : ByteArray} (h : indexByte s.data.toList 47 = i) : spB (k + 1) s = s.extract 0 i :: spB k (s.extract (i + 1) s.size) := by
  rw [spB, if_neg (by omega), h]
  rfl
theorem ext_drop (s : ByteArray) (i : Nat) : (s.extract i s.size).data.toList = s.data.toList.drop i := by
  rw [ByteArray.data_extract, Array.toList_extract, List.extract_eq_take_drop]
  exact List.take_of_length_le (by rw [List.length_drop, ← Lib.size_eq]; omega)
theorem spB_spn : ∀ (k : Nat) (s : ByteArray), (spB k s).map (·.data.toList) = spn k s.data.toList := by
  intro k
  induction k with
  | zero => intro s; rfl
  | succ k ih =>
    intro s
    rcases ix_cases 47 s.data.toList with ⟨e, _⟩ | ⟨i, e, _⟩
    · rw [spB_none e, spn_none e]; rfl
    · rw [spB_at e, spn_at e, List.map_cons, ih, Lib.extract_from_zero, ext_drop]
theorem spB_len : ∀ (k : Nat) (s : ByteArray), 1 ≤ (spB k s).length ∧ (spB k s).length ≤ k + 1 := by
  intro k
  induction k with
  | zero => intro s; exact ⟨Nat.le_refl _, Nat.le_refl _⟩
  | succ k ih =>
    intro s
    rcases ix_cases 47 s.data.toList with ⟨e, _⟩ | ⟨i, e, _⟩
    · rw [spB_none e]; exact ⟨Nat.le_refl _, by simp⟩
    · rw [spB_at e]
      have := (ih (s.extract (i + 1) s.size)).2
      simp only [List.length_cons]
      omega
theorem spB_size : ∀ (k : Nat) (s t : ByteArray), t ∈ spB k s → t.size ≤ s.size := by
  intro k
  induction k with
  | zero => intro s t h; rw [List.mem_singleton.1 h]; exact Nat.le_refl _
  | succ k ih =>
    intro s t h
    rcases ix_cases 47 s.data.toList with ⟨e, _⟩ | ⟨i, e, _⟩
    · rw [spB_none e] at h; rw [List.mem_singleton.1 h]; exact Nat.le_refl _
    · rw [spB_at e] at h
      rcases List.mem_cons.1 h with rfl | h
      · rw [ByteArray.size_extract]; omega
      · have := ih _ _ h
        rw [ByteArray.size_extract] at this
        omega
end Nn
end Go.Proofs.YtimdioacmojkeabGreatDoor

namespace Go.Proofs
open Go.Shelf
def Tryz.lays219_ren : Go.Shelf.Ren := ⟨fun | 219 => 74 | 217 => 90 | 225 => 91 | 224 => 92 | 267 => 93 | 266 => 106 | 314 => 107 | n => n, fun | 9 => 9 | 3 => 3 | 4 => 4 | 5 => 5 | 46 => 114 | 146 => 139 | 51 => 138 | n => n, fun | 1 => 2 | n => n⟩
theorem Tryz.lays219 : Go.Proofs.Lays.n219 Tryz.prog Tryz.lays219_ren := {
  mixed := by kernel_rfl
  f217 := Tryz.func90.trans (congrArg some (by kernel_rfl))
  f219 := Tryz.func74.trans (congrArg some (by kernel_rfl))
  f224 := Tryz.func92.trans (congrArg some (by kernel_rfl))
  f225 := Tryz.func91.trans (congrArg some (by kernel_rfl))
  f266 := Tryz.func106.trans (congrArg some (by kernel_rfl))
  f267 := Tryz.func93.trans (congrArg some (by kernel_rfl))
  f314 := Tryz.func107.trans (congrArg some (by kernel_rfl))
  t3 := Tryz.underlying3
  a3 := Tryz.isAgg3
  z3 := Tryz.sizeOf3
  v3 := Tryz.zeroValue3
  t4 := Tryz.underlying4
  a4 := Tryz.isAgg4
  z4 := Tryz.sizeOf4
  v4 := Tryz.zeroValue4
  t5 := Tryz.underlying5
  a5 := Tryz.isAgg5
  z5 := Tryz.sizeOf5
  v5 := Tryz.zeroValue5
  t9 := Tryz.underlying9
  a9 := Tryz.isAgg9
  z9 := Tryz.sizeOf9
  v9 := Tryz.zeroValue9
  t46 := Tryz.underlying114
  a46 := Tryz.isAgg114
  z46 := Tryz.sizeOf114
  v46 := Tryz.zeroValue114
  t51 := Tryz.underlying138
  a51 := Tryz.isAgg138
  z51 := Tryz.sizeOf138
  v51 := Tryz.zeroValue138
  t146 := Tryz.underlying139
  a146 := Tryz.isAgg139
  z146 := Tryz.sizeOf139
  v146 := Tryz.zeroValue139
  g1 := by kernel_rfl }
open Go.RowKit Go.Lib in
theorem Tryz.stringslite_Index_one (s : ByteArray) (c : UInt8) (w : World) :
    Calls Tryz.prog 74 #[.string s, .string ⟨#[c]⟩] w fun e w' => e = .returned (.int .i64 (Lib.indexByte s.data.toList c)) ∧ w' = w := Any.stringslite_Index_one Tryz.lays219 s c w
def Tryz.lays143_ren : Go.Shelf.Ren := ⟨fun | 143 => 57 | 219 => 74 | 217 => 90 | 225 => 91 | 224 => 92 | 267 => 93 | 266 => 106 | 314 => 107 | n => n, fun | 9 => 9 | 3 => 3 | 4 => 4 | 5 => 5 | 46 => 114 | 146 => 139 | 51 => 138 | n => n, fun | 1 => 2 | n => n⟩
theorem Tryz.lays143 : Go.Proofs.Lays.n143 Tryz.prog Tryz.lays143_ren := {
  mixed := by kernel_rfl
  f143 := Tryz.func57.trans (congrArg some (by kernel_rfl))
  f217 := Tryz.func90.trans (congrArg some (by kernel_rfl))
  f219 := Tryz.func74.trans (congrArg some (by kernel_rfl))
  f224 := Tryz.func92.trans (congrArg some (by kernel_rfl))
  f225 := Tryz.func91.trans (congrArg some (by kernel_rfl))
  f266 := Tryz.func106.trans (congrArg some (by kernel_rfl))
  f267 := Tryz.func93.trans (congrArg some (by kernel_rfl))
  f314 := Tryz.func107.trans (congrArg some (by kernel_rfl))
  t3 := Tryz.underlying3
  a3 := Tryz.isAgg3
  z3 := Tryz.sizeOf3
  v3 := Tryz.zeroValue3
  t4 := Tryz.underlying4
  a4 := Tryz.isAgg4
  z4 := Tryz.sizeOf4
  v4 := Tryz.zeroValue4
  t5 := Tryz.underlying5
  a5 := Tryz.isAgg5
  z5 := Tryz.sizeOf5
  v5 := Tryz.zeroValue5
  t9 := Tryz.underlying9
  a9 := Tryz.isAgg9
  z9 := Tryz.sizeOf9
  v9 := Tryz.zeroValue9
  t46 := Tryz.underlying114
  a46 := Tryz.isAgg114
  z46 := Tryz.sizeOf114
  v46 := Tryz.zeroValue114
  t51 := Tryz.underlying138
  a51 := Tryz.isAgg138
  z51 := Tryz.sizeOf138
  v51 := Tryz.zeroValue138
  t146 := Tryz.underlying139
  a146 := Tryz.isAgg139
  z146 := Tryz.sizeOf139
  v146 := Tryz.zeroValue139
  g1 := by kernel_rfl }
open Go.RowKit Go.Lib in
theorem Tryz.strings_Index_one (s : ByteArray) (c : UInt8) (w : World) :
    Calls Tryz.prog 57 #[.string s, .string ⟨#[c]⟩] w fun e w' => e = .returned (.int .i64 (Lib.indexByte s.data.toList c)) ∧ w' = w := Any.strings_Index_one Tryz.lays143 s c w
end Go.Proofs

namespace Go.Proofs.YtimdioacmojkeabGreatDoor
open Go.RowKit Go.Lib

set_option maxHeartbeats 1000000 in
theorem gen_any (s : ByteArray) (w : World) (hs : s.size ≤ 140737488355328) (n : Int) (hn : 1 ≤ n) (hn9 : n ≤ 9) (N : Nat) (hN : (N : Int) = min n ((s.size : Int) + 1)) :
    Calls Tryz.prog 37 #[.string s, .string ⟨#[47]⟩, .int .i64 0, .int .i64 n] w fun e w' =>
      e = .returned (.slice (some ⟨w.heap.size, 0, none⟩) (Nn.spB (N - 1) s).length N) ∧ w' = w.alloc (.cells (Lib.cellsOf (Nn.spB (N - 1) s) N) 9) := by
  have hN1 : 1 ≤ N := by omega
  have hNs : N ≤ s.size + 1 := by omega
  have hN9 : N ≤ 9 := by omega
  have hmk := run_make_row' (P := Tryz.prog) 38 9 (.string ByteArray.empty) 16 Tryz.underlying38 (by kernel_rfl) rfl .i64 .i64 N (by omega) (by omega)
  have hne : (n == 0) = false := beq_eq_false_iff_ne.2 (by omega)
  have hng : ¬ n < 0 := by omega
  have hNi : min n ((s.size : Int) + 1) = (N : Int) := hN.symm
  clear hN
  go_enter Tryz.func37, Tryz.ntmps37
  go_wp2_with fail
  clear hmk
  go_loopg [0, 10] (N - 1) (fun g s0 s10 wr => ∃ (done : List ByteArray) (rest : ByteArray), s0 = .string rest ∧ s10 = .int .i64 done.length ∧ done.length ≤ N - 1 ∧ g = N - 1 - done.length ∧ rest.size ≤ s.size ∧
      wr = w.alloc (.cells (Lib.cellsOf done N) 9) ∧ done ++ Nn.spB (N - 1 - done.length) rest = Nn.spB (N - 1) s)
  case atStart => exact ⟨[], s, rfl, rfl, Nat.zero_le _, rfl, Nat.le_refl _, by rw [Lib.cellsOf_nil], rfl⟩
  case round =>
    obtain ⟨done, rest, rfl, rfl, hd, rfl, hrs, rfl, hsp⟩ := hrel
    have hnext : (Lib.cellsOf done N)[done.length]? = some (.string ByteArray.empty) := Lib.cellsOf_next (by omega)
    have HS : Hid (done ++ Nn.spB (N - 1 - done.length) rest = Nn.spB (N - 1) s) := hsp
    clear hsp
    have HFin : Hid (Nn.spB (N - 1 - done.length) rest = [rest] → (Nn.spB (N - 1) s).length = done.length + 1 ∧ (Lib.cellsOf done N).setIfInBounds done.length (.string rest) = Lib.cellsOf (Nn.spB (N - 1) s) N) := fun h => by
      have e := HS.out
      rw [h] at e
      rw [← e]
      exact ⟨by simp, Lib.cellsOf_set (by omega) rest⟩
    by_cases hlt : done.length < N - 1
    · have hltz : ((done.length : Nat) : Int) < (N : Int) - 1 := by omega
      have hI := Tryz.strings_Index_one rest 47 (w.alloc (.cells (Lib.cellsOf done N) 9))
      rcases Nn.ix_cases 47 rest.data.toList with ⟨hix, _⟩ | ⟨i, hix, hroom, _⟩
      · rw [hix] at hI
        go_wp2_with fail
        refine hI.mono ?_
        rintro e w' ⟨rfl, hw⟩
        rw [hw]
        go_wp2_with fail
        go_ret
        obtain ⟨f1, f2⟩ := HFin.out (Nn.spB_none hix)
        rw [f1, ← f2]
        exact ⟨by first | rfl | (congr 2 <;> omega), rfl⟩
      · rw [← Lib.size_eq] at hroom
        have c0 : ¬ ((i : Int) < 0) := by omega
        have c2 : (↑i : Int) ≤ ↑rest.size := by omega
        have c4 : (↑i + 1 : Int) ≤ ↑rest.size := by omega
        have c3 : (0 : Int) ≤ ↑i + 1 := by omega
        have HX : Hid (indexByte rest.data.toList 47 = i) := hix
        rw [hix] at hI
        clear hix
        go_wp2_with fail
        refine hI.mono ?_
        rintro e w' ⟨rfl, hw⟩
        rw [hw]
        clear hw hI
        go_wp2_with fail
        go_roundg (N - 1 - (done.length + 1))
        case measure => omega
        case rel =>
          refine ⟨done ++ [rest.extract 0 i], rest.extract (i + 1) rest.size, rfl, by simp, by simp; omega, by simp, by rw [ByteArray.size_extract]; omega, by rw [← Lib.cellsOf_set (by omega)], ?_⟩
          rw [← HS.out, show N - 1 - done.length = (N - 1 - (done.length + 1)) + 1 by omega, Nn.spB_at HX.out]
          simp
    · have hltz : ¬ (((done.length : Nat) : Int) < (N : Int) - 1) := by omega
      go_wp2_with fail
      go_ret
      obtain ⟨f1, f2⟩ := HFin.out (by rw [show N - 1 - done.length = 0 by omega]; rfl)
      rw [f1, ← f2]
      exact ⟨by first | rfl | (congr 2 <;> omega), rfl⟩
/-- the parts lie in a row of one's own -/
theorem cells_own (w : World) (l : List ByteArray) (N : Nat) (h1 : l.length ≤ N) (hN : N ≤ 9) :
    (w.alloc (.cells (Lib.cellsOf l N) 9)).ownsRow w.heap.size 9 1 (.slice (some ⟨w.heap.size, 0, none⟩) l.length N) l.length (l.map Tv) := by
  refine ⟨by simp, .inr ⟨w.heap.size, N, _, rfl, Nat.le_refl _, heap_alloc_new w _, h1, by unfold maxLen; omega, by rw [Lib.cellsOf_size h1, Nat.mul_one], ?_⟩⟩
  unfold Lib.cellsOf
  rw [Nat.mul_one, List.take_left' (by simp)]
  rfl
theorem splitN_any (s : ByteArray) (w : World) (hs : s.size ≤ 140737488355328) :
    Calls Tryz.prog 21 #[.string s, .string ⟨#[47]⟩, .int .i64 9] w fun e w' => ∃ N, e = .returned (.slice (some ⟨w.heap.size, 0, none⟩) (Nn.spB 8 s).length N) ∧
      w'.ownsRow w.heap.size 9 1 (.slice (some ⟨w.heap.size, 0, none⟩) (Nn.spB 8 s).length N) (Nn.spB 8 s).length ((Nn.spB 8 s).map Tv) ∧ Below w.heap.size w w' := by
  obtain ⟨N, hN⟩ : ∃ N, N = min 9 (s.size + 1) := ⟨_, rfl⟩
  have hg := gen_any s w hs 9 (by omega) (by omega) N (by omega)
  have he : Nn.spB (N - 1) s = Nn.spB 8 s := by
    rcases Nat.lt_or_ge s.size 9 with h | h
    · have hm : (Nn.spB (N - 1) s).map (·.data.toList) = (Nn.spB 8 s).map (·.data.toList) := by
        rw [Nn.spB_spn, Nn.spB_spn, Nn.spn_more (N - 1) 8 _ (by rw [← Lib.size_eq]; omega) (by rw [← Lib.size_eq]; omega)]
      refine List.map_inj_right (f := fun x : ByteArray => x.data.toList) (fun x y h => ?_) |>.1 hm
      exact ByteArray.ext (Array.toList_inj.1 h)
    · rw [show N - 1 = 8 by omega]
  rw [he] at hg
  have hl := (Nn.spB_len (N - 1) s).2
  rw [he] at hl
  have HO : Hid ((w.alloc (.cells (Lib.cellsOf (Nn.spB 8 s) N) 9)).ownsRow w.heap.size 9 1 (.slice (some ⟨w.heap.size, 0, none⟩) (Nn.spB 8 s).length N) (Nn.spB 8 s).length ((Nn.spB 8 s).map Tv)) := cells_own w _ N (by omega) (by omega)
  generalize Nn.spB 8 s = l at *
  clear he hN
  go_enter Tryz.func21, Tryz.ntmps21
  go_wp2_with fail
  refine hg.mono ?_
  rintro e w' ⟨rfl, hw⟩
  rw [hw]
  clear hg hw
  go_wp2_with fail
  go_ret
  exact ⟨N, rfl, HO.out, (Below.refl _ w).alloc (Nat.le_refl _) _⟩
end Go.Proofs.YtimdioacmojkeabGreatDoor

namespace Go.Proofs.YtimdioacmojkeabGreatDoor
open Go.RowKit
set_option maxRecDepth 4000

theorem clone_any (s : ByteArray) (w : World) (hs : s.size ≤ 140737488355328) :
    Calls Tryz.prog 23 #[.string s] w fun e w' => e = .returned (.string s) ∧ Below w.heap.size w w' := by
  go_enter Tryz.func23, Tryz.ntmps23
  go_wp2_with (refine (Tryz.stringslite_Clone _ _ (by omega)).mono ?_; rintro e w' ⟨rfl, hb⟩)
  go_ret
  exact ⟨rfl, hb⟩

/-- what Split answers: the names, in memory that was not there, and the error -/
def SpOut (p : ByteArray) (w : World) (e : Ending) (w' : World) : Prop :=
  ∃ v l, e = .returned (.tuple #[v, .int .i64 (Nn.split p.data.toList).2]) ∧ dl l = (Nn.split p.data.toList).1 ∧ Tx w' v l ∧ Cp v ∧ Below w.heap.size w w'
theorem Tx.none (w : World) : Tx w (.slice none 0 0) [] := ⟨.inl ⟨⟨_, _, rfl⟩, rfl⟩⟩

theorem hasPre_slash (s : ByteArray) : Lib.hasPrefix s.data.toList [47] = decide (s.data.toList.head? = some 47) := by
  cases s.data.toList with
  | nil => rfl
  | cons b l =>
    show (([47] : List UInt8).isPrefixOf (b :: l)) = _
    simp only [List.isPrefixOf, Bool.and_true, List.head?_cons, Option.some.injEq]
    by_cases h : b = 47
    · subst h; rfl
    · rw [decide_eq_false h, beq_eq_false_iff_ne]; exact fun e => h e.symm

set_option maxHeartbeats 1000000 in
theorem split_root (w : World) :
    Calls Tryz.prog 9 #[.string ⟨#[47]⟩] w fun e w' => e = .returned (.tuple #[.slice none 0 0, .int .i64 0]) ∧ w' = w := by
  go_enter Tryz.func9, Tryz.ntmps9
  go_wp2_with fail
  go_ret2
  exact ⟨rfl, rfl⟩

set_option maxHeartbeats 1000000 in
theorem split_no (p : ByteArray) (w : World) (h1 : p.data.toList ≠ [47]) (h : p.data.toList.head? ≠ some 47) :
    Calls Tryz.prog 9 #[.string p] w fun e w' => e = .returned (.tuple #[.slice none 0 0, .int .i64 8]) ∧ w' = w := by
  have e1 : (p.toList == [47]) = false := data_ne h1
  have hq := Tryz.strings_HasPrefix p ⟨#[47]⟩ w
  rw [show (⟨#[47]⟩ : ByteArray).data.toList = [47] from rfl, hasPre_slash, decide_eq_false h] at hq
  clear h h1
  go_enter Tryz.func9, Tryz.ntmps9
  go_wp2_with fail
  refine hq.mono ?_
  rintro e u ⟨rfl, hu⟩
  obtain rfl := hu.symm
  go_wp2_with fail
  go_ret2
  exact ⟨rfl, rfl⟩

set_option maxHeartbeats 1000000 in
theorem split_bad (p : ByteArray) (w : World) (hp : p.size ≤ 140737488355328) (hT : Tabs w) (h1 : p.data.toList ≠ [47]) (h : p.data.toList.head? = some 47) (l : List ByteArray) (hl : l = Nn.spB 8 (p.extract 1 p.size)) (E : Int) (hE : E = Nn.errs (dl l)) (h0 : E ≠ 0) :
    Calls Tryz.prog 9 #[.string p] w fun e w' => e = .returned (.tuple #[.slice none 0 0, .int .i64 E]) ∧ Below w.heap.size w w' := by
  have e1 : (p.toList == [47]) = false := data_ne h1
  have hq := Tryz.strings_HasPrefix p ⟨#[47]⟩ w
  rw [show (⟨#[47]⟩ : ByteArray).data.toList = [47] from rfl, hasPre_slash, decide_eq_true h] at hq
  have h1p : 1 ≤ p.size := by
    rw [Lib.size_eq]
    cases hx : p.data.toList with
    | nil => rw [hx] at h; cases h
    | cons a b => simp
  have h1z : (1 : Int) ≤ (p.size : Int) := by omega
  have hz : (p.extract 1 p.size).size ≤ 140737488355328 := by rw [ByteArray.size_extract]; omega
  have hs := splitN_any (p.extract 1 p.size) w hz
  rw [← hl] at hs
  have HF : Hid (Few l) := fun t ht => by
    rw [hl] at ht
    have := Nn.spB_size _ _ _ ht
    omega
  have HL : Hid (l.length ≤ 9) := by
    show _ ≤ _
    rw [hl]; exact (Nn.spB_len 8 _).2
  have HT : Hid (Tabs w) := hT
  have HE : Hid (E = Nn.errs (dl l)) := hE
  have hqn : (E != 0) = true := by rw [bne_iff_ne]; exact h0
  clear h h1 hz hl hT hE
  go_enter Tryz.func9, Tryz.ntmps9
  go_wp2_with fail
  refine hq.mono ?_
  rintro e u ⟨rfl, hu⟩
  obtain rfl := hu.symm
  go_wp2_with fail
  refine hs.mono ?_
  rintro e w1 ⟨N, rfl, o1, b1⟩
  have ha := all_any _ l w1 (Tx.of_own o1) (by have := HL.out; omega) HF.out (HT.out.below b1)
  rw [← HE.out] at ha
  have HB : Hid (Below w.heap.size w w1) := b1
  clear o1 b1
  go_wp2_with fail
  refine ha.mono ?_
  rintro e w2 ⟨rfl, b2⟩
  have HB2 : Hid (Below w.heap.size w w2) := HB.out.trans (b2.mono HB.out.size)
  clear b2
  go_wp2_with fail
  go_ret2
  exact ⟨rfl, HB2.out⟩

set_option maxHeartbeats 1000000 in
theorem split_ok (p : ByteArray) (w : World) (hp : p.size ≤ 140737488355328) (hT : Tabs w) (h1 : p.data.toList ≠ [47]) (h : p.data.toList.head? = some 47) (l : List ByteArray) (hl : l = Nn.spB 8 (p.extract 1 p.size)) (hE : Nn.errs (dl l) = 0) :
    Calls Tryz.prog 9 #[.string p] w fun e w' => ∃ v, e = .returned (.tuple #[v, .int .i64 0]) ∧ w'.ownsRow w.heap.size 9 1 v l.length (l.map Tv) ∧ Below w.heap.size w w' := by
  have e1 : (p.toList == [47]) = false := data_ne h1
  have hq := Tryz.strings_HasPrefix p ⟨#[47]⟩ w
  rw [show (⟨#[47]⟩ : ByteArray).data.toList = [47] from rfl, hasPre_slash, decide_eq_true h] at hq
  have h1p : 1 ≤ p.size := by
    rw [Lib.size_eq]
    cases hx : p.data.toList with
    | nil => rw [hx] at h; cases h
    | cons a b => simp
  have h1z : (1 : Int) ≤ (p.size : Int) := by omega
  have hz : (p.extract 1 p.size).size ≤ 140737488355328 := by rw [ByteArray.size_extract]; omega
  have hs := splitN_any (p.extract 1 p.size) w hz
  rw [← hl] at hs
  have HF : Hid (∀ t ∈ l, t.size ≤ 140737488355328) := fun t ht => by
    rw [hl] at ht
    have := Nn.spB_size _ _ _ ht
    omega
  have HL : Hid (l.length ≤ 9) := by
    show _ ≤ _
    rw [hl]; exact (Nn.spB_len 8 _).2
  have HT : Hid (Tabs w) := hT
  have HE : Hid (Nn.errs (dl l) = 0) := hE
  clear h h1 hz hl hT hE
  go_enter Tryz.func9, Tryz.ntmps9
  go_wp2_with fail
  refine hq.mono ?_
  rintro e u ⟨rfl, hu⟩
  obtain rfl := hu.symm
  go_wp2_with fail
  refine hs.mono ?_
  rintro e w1 ⟨N, rfl, o1, b1⟩
  have ha := all_any _ l w1 (Tx.of_own o1) (by have := HL.out; omega) (fun t ht => Nat.le_trans (HF.out t ht) (by omega)) (HT.out.below b1)
  rw [HE.out] at ha
  have HB : Hid (Below w.heap.size w w1) := b1
  have HO : Hid (w1.ownsRow w.heap.size 9 1 (.slice (some ⟨w.heap.size, 0, none⟩) l.length N) l.length (l.map Tv)) := o1
  clear o1 b1 hs
  go_wp2_with fail
  refine ha.mono ?_
  rintro e w2 ⟨rfl, b2⟩
  have HB2 : Hid (Below w.heap.size w w2) := HB.out.trans (b2.mono HB.out.size)
  have HO2 : Hid (w2.ownsRow w.heap.size 9 1 (.slice (some ⟨w.heap.size, 0, none⟩) l.length N) l.length (l.map Tv)) := own_below HO.out b2
  obtain ⟨B, hB⟩ : ∃ B, B = w.heap.size := ⟨_, rfl⟩
  have HBe : Hid (B = w.heap.size) := hB
  rw [← hB] at HB2 HO2 ⊢
  clear b2 HB HO ha hB
  obtain ⟨M, hM⟩ : ∃ M, M = l.length := ⟨_, rfl⟩
  have HM : Hid (M = l.length) := hM
  rw [← hM] at HO2 ⊢
  have hM9 : M ≤ 9 := by rw [hM]; exact HL.out
  clear hM HL
  go_wp2_with fail
  go_loopw [23] (fun i wr => ∃ k : Nat, k ≤ M ∧ i = .int .i64 k ∧ Hid (wr.ownsRow B 9 1 (.slice (some ⟨B, 0, none⟩) M N) M (l.map Tv)) ∧ Hid (Below B w wr)) (fun i _ => M - (intOf i).toNat)
  case atStart => exact ⟨0, by omega, rfl, HO2, HB2⟩
  case round =>
    clear HO2 HB2
    obtain ⟨k, hk, rfl, HO, HB⟩ := hrel
    by_cases hlt : k < M
    · have hk' : k < l.length := by rw [← HM.out]; exact hlt
      have c0 : wr.cell? ⟨B, k, none⟩ = some (.string l[k]) := by
        rw [HO.out.cellAt k (by omega), List.getElem?_map, List.getElem?_eq_getElem hk']
        rfl
      have hz : l[k].size ≤ 140737488355328 := HF.out _ (List.getElem_mem hk')
      have HS : Hid (l.set k l[k] = l) := List.set_getElem_self hk'
      have hbk : B < wr.heap.size := World.block_lt_of_cell? wr _ c0
      generalize l[k] = t at *
      have hc := fun u => clone_any t u hz
      go_wp2_with fail
      refine (hc _).mono ?_
      rintro e w3 ⟨rfl, b3⟩
      have HO3 : Hid (w3.ownsRow B 9 1 (.slice (some ⟨B, 0, none⟩) M N) M (l.map Tv)) := own_below HO.out b3
      have HB3 : Hid (Below B w w3) := HB.out.trans (b3.mono (by omega))
      have c3 : w3.cell? ⟨B, k, none⟩ = some (.string t) := (b3.cell (p := ⟨B, k, none⟩) hbk).trans c0
      have f3 : w3.frozen? ⟨B, k, none⟩ = false := HO3.out.frozenAt k
      clear b3 HO HB c0
      go_wp2_with fail
      go_roundw
      case rel =>
        refine ⟨k + 1, by omega, by go_num, ?_, HB3.out.setCell (by simp) _⟩
        have := tx_store HO3.out k t
        rw [HS.out] at this
        exact this
      case measure => simp only [intOf]; omega
    · obtain rfl : k = M := by omega
      go_wp2_with fail
      go_ret2
      refine ⟨_, rfl, ?_, ?_⟩
      · rw [← HBe.out, ← HM.out]; exact HO.out
      · rw [← HBe.out]; exact HB.out

theorem split_any (p : ByteArray) (w : World) (hp : p.size ≤ 140737488355328) (hT : Tabs w) :
    Calls Tryz.prog 9 #[.string p] w (SpOut p w) := by
  by_cases h : p.data.toList.head? = some 47
  · by_cases h1 : p.data.toList = [47]
    · obtain rfl := of_data h1
      refine (split_root w).mono ?_
      rintro e w' ⟨rfl, rfl⟩
      exact ⟨_, [], rfl, rfl, Tx.none _, Cp.none, Below.refl _ _⟩
    · have hd : dl (Nn.spB 8 (p.extract 1 p.size)) = Nn.spn 8 p.data.toList.tail := by
        rw [dl, Nn.spB_spn, Nn.ext_drop, List.drop_one]
      have he : Nn.errs (dl (Nn.spB 8 (p.extract 1 p.size))) = Nn.errs (Nn.cut p.data.toList.tail) := by
        rw [hd]; exact Nn.errs_spn 8 0 _ rfl
      by_cases h0 : Nn.errs (Nn.cut p.data.toList.tail) = 0
      · have hs : Nn.split p.data.toList = (Nn.cut p.data.toList.tail, 0) := by
          unfold Nn.split
          rw [if_neg (by simpa using h), if_neg h1, if_neg (by simpa using h0)]
        refine (split_ok p w hp hT h1 h _ rfl (he.trans h0)).mono ?_
        rintro e w' ⟨v, rfl, o, b⟩
        refine ⟨v, _, by rw [hs], ?_, Tx.of_own o, Cp.of_own o, b⟩
        rw [hs, hd]
        exact Nn.spn_cut 8 0 _ rfl h0
      · have hs : Nn.split p.data.toList = ([], Nn.errs (Nn.cut p.data.toList.tail)) := by
          unfold Nn.split
          rw [if_neg (by simpa using h), if_neg h1, if_pos h0]
        refine (split_bad p w hp hT h1 h _ rfl _ he.symm h0).mono ?_
        rintro e w' ⟨rfl, b⟩
        exact ⟨_, [], by rw [hs], by rw [hs]; rfl, Tx.none _, Cp.none, b⟩
  · have hs : Nn.split p.data.toList = ([], 8) := by
      unfold Nn.split
      rw [if_pos h]
    refine (split_no p w (fun e => h (by rw [e]; rfl)) h).mono ?_
    rintro e w' ⟨rfl, rfl⟩
    exact ⟨_, [], by rw [hs], by rw [hs]; rfl, Tx.none _, Cp.none, Below.refl _ _⟩
end Go.Proofs.YtimdioacmojkeabGreatDoor

namespace Go.Proofs.YtimdioacmojkeabGreatDoor
open Go.RowKit
set_option maxRecDepth 4000

/-- two texts held against each other by their bytes -/
def cmpB (s t : ByteArray) : Int := if Op.bytesLess s.data.toList t.data.toList then -1 else if Op.bytesLess t.data.toList s.data.toList then 1 else 0
/-- two lists -/
def cmpL : List ByteArray → List ByteArray → Int
  | [], [] => 0
  | [], _ :: _ => -1
  | _ :: _, [] => 1
  | s :: l, t :: m => if cmpB s t ≠ 0 then cmpB s t else cmpL l m
theorem cmpL_ahead : ∀ (l m : List ByteArray), decide (cmpL l m < 0) = Nn.ahead (dl l) (dl m)
  | [], [] => rfl
  | [], _ :: _ => rfl
  | _ :: _, [] => rfl
  | s :: l, t :: m => by
    have ih := cmpL_ahead l m
    show _ = Nn.ahead (s.data.toList :: dl l) (t.data.toList :: dl m)
    rw [Nn.ahead, cmpL]
    unfold cmpB
    by_cases e : s.data.toList = t.data.toList
    · rw [if_pos e, e, Nn.bl_irr]
      simpa using ih
    · rw [if_neg e]
      have ht := Nn.bl_tri _ _ e
      cases h1 : Op.bytesLess s.data.toList t.data.toList
      · rw [h1] at ht
        have h2 : Op.bytesLess t.data.toList s.data.toList = true := by
          cases h : Op.bytesLess t.data.toList s.data.toList
          · rw [h] at ht; cases ht
          · rfl
        simp [h2]
      · simp

theorem isNaN_any (s : ByteArray) (w : World) :
    Calls Tryz.prog 102 #[.string s] w fun e w' => e = .returned (.bool false) ∧ w' = w := by
  go_enter Tryz.func102, Tryz.ntmps102
  go_wp2_with fail
  go_ret
  exact ⟨rfl, rfl⟩

theorem cmpS_any (s t : ByteArray) (w : World) :
    Calls Tryz.prog 79 #[.string s, .string t] w fun e w' => e = .returned (.int .i64 (cmpB s t)) ∧ w' = w := by
  have hx := fun u => isNaN_any s u
  have hy := fun u => isNaN_any t u
  by_cases he : s.data.toList = t.data.toList
  · have HE : Hid (cmpB s t = 0) := by
      show _ = _
      unfold cmpB; rw [he, Nn.bl_irr]; rfl
    have hl : Op.bytesLess s.toList t.toList = false := by rw [Lib.toList_data, Lib.toList_data, he, Nn.bl_irr]
    have hq : (s.toList == t.toList) = true := by rw [Lib.toList_data, Lib.toList_data, he, beq_self_eq_true]
    clear he
    go_enter Tryz.func79, Tryz.ntmps79
    go_wp2_with fail
    refine (hx _).mono ?_
    rintro e u ⟨rfl, hu⟩
    obtain rfl := hu.symm
    go_wp2_with fail
    refine (hy _).mono ?_
    rintro e u ⟨rfl, hu⟩
    obtain rfl := hu.symm
    go_wp2_with fail
    go_ret
    exact ⟨by rw [HE.out]; rfl, rfl⟩
  have ht := Nn.bl_tri _ _ he
  have hq : (s.toList == t.toList) = false := by rw [Lib.toList_data, Lib.toList_data, beq_eq_false_iff_ne]; exact he
  cases h1 : Op.bytesLess s.data.toList t.data.toList
  · have HE : Hid (cmpB s t = 1) := by
      show _ = _
      unfold cmpB
      rw [h1] at ht ⊢
      cases h : Op.bytesLess t.data.toList s.data.toList
      · rw [h] at ht; cases ht
      · rfl
    have hl : Op.bytesLess s.toList t.toList = false := by rw [Lib.toList_data, Lib.toList_data]; exact h1
    clear he ht h1
    go_enter Tryz.func79, Tryz.ntmps79
    go_wp2_with fail
    refine (hx _).mono ?_
    rintro e u ⟨rfl, hu⟩
    obtain rfl := hu.symm
    go_wp2_with fail
    refine (hy _).mono ?_
    rintro e u ⟨rfl, hu⟩
    obtain rfl := hu.symm
    go_wp2_with fail
    go_ret
    exact ⟨by rw [HE.out]; rfl, rfl⟩
  · have HE : Hid (cmpB s t = -1) := by
      show _ = _
      unfold cmpB
      rw [h1]
      rfl
    have hl : Op.bytesLess s.toList t.toList = true := by rw [Lib.toList_data, Lib.toList_data]; exact h1
    clear he ht h1
    go_enter Tryz.func79, Tryz.ntmps79
    go_wp2_with fail
    refine (hx _).mono ?_
    rintro e u ⟨rfl, hu⟩
    obtain rfl := hu.symm
    go_wp2_with fail
    refine (hy _).mono ?_
    rintro e u ⟨rfl, hu⟩
    obtain rfl := hu.symm
    go_wp2_with fail
    go_ret
    exact ⟨by rw [HE.out]; rfl, rfl⟩
theorem cmpL_drop (l m : List ByteArray) (k : Nat) (hk : k < l.length) (hm : k < m.length) : cmpL (l.drop k) (m.drop k) = if cmpB (l.getD k ByteArray.empty) (m.getD k ByteArray.empty) ≠ 0 then cmpB (l.getD k ByteArray.empty) (m.getD k ByteArray.empty) else cmpL (l.drop (k + 1)) (m.drop (k + 1)) := by
  rw [List.drop_eq_getElem_cons hk, List.drop_eq_getElem_cons hm, cmpL, List.getD_eq_getElem?_getD, List.getElem?_eq_getElem hk, List.getD_eq_getElem?_getD, List.getElem?_eq_getElem hm]
  rfl

set_option maxHeartbeats 1000000 in
theorem cmpL_any (v1 v2 : Value) (l m : List ByteArray) (w : World) (h1 : Tx w v1 l) (h2 : Tx w v2 m) (hl : l.length ≤ 140737488351232) (hm : m.length ≤ 140737488351232) :
    Calls Tryz.prog 63 #[v1, v2] w fun e w' => e = .returned (.int .i64 (cmpL l m)) ∧ w' = w := by
  obtain ⟨a1, c1, rfl⟩ := h1.slice
  obtain ⟨a2, c2, rfl⟩ := h2.slice
  have HS : Hid (cmpL (l.drop 0) (m.drop 0) = cmpL l m) := rfl
  have H1 : Hid (Tx w (.slice a1 l.length c1) l) := h1
  have H2 : Hid (Tx w (.slice a2 m.length c2) m) := h2
  obtain ⟨N, hN⟩ : ∃ N, N = l.length := ⟨_, rfl⟩
  obtain ⟨M, hM⟩ : ∃ M, M = m.length := ⟨_, rfl⟩
  have HN : Hid (N = l.length) := hN
  have HM : Hid (M = m.length) := hM
  rw [← hN] at H1 hl ⊢
  rw [← hM] at H2 hm ⊢
  clear h1 h2 hN hM
  generalize cmpL l m = Z at *
  go_enter Tryz.func63, Tryz.ntmps63
  go_wp2_with fail
  go_loop [11] (fun i => ∃ k : Nat, k ≤ N ∧ k ≤ M ∧ i = .int .i64 k ∧ Hid (cmpL (l.drop k) (m.drop k) = Z)) (fun i => N - (intOf i).toNat)
  case atStart => exact ⟨0, by omega, by omega, rfl, HS⟩
  case round =>
    clear HS
    obtain ⟨k, hk, hkm, rfl, HS⟩ := hrel
    by_cases hlt : k < N
    · obtain ⟨bk, o, rfl, hbk, c0⟩ := H1.out.get k (by rw [← HN.out]; omega)
      by_cases hlm : k < M
      · obtain ⟨bk', o', rfl, hbk', d0⟩ := H2.out.get k (by rw [← HM.out]; omega)
        have HD : Hid (Z = if cmpB (l.getD k ByteArray.empty) (m.getD k ByteArray.empty) ≠ 0 then cmpB (l.getD k ByteArray.empty) (m.getD k ByteArray.empty) else cmpL (l.drop (k + 1)) (m.drop (k + 1))) := by
          show _ = _
          rw [← cmpL_drop _ _ _ (by rw [← HN.out]; omega) (by rw [← HM.out]; omega)]; exact HS.out.symm
        generalize l.getD k ByteArray.empty = s at *
        generalize m.getD k ByteArray.empty = t at *
        have hq := cmpS_any s t w
        generalize cmpB s t = E at *
        clear HS
        by_cases h0 : E = 0
        · have HZ : Hid (cmpL (l.drop (k + 1)) (m.drop (k + 1)) = Z) := by have := HD.out; rw [if_neg (by simpa using h0)] at this; exact this.symm
          subst h0
          clear HD
          go_wp2_with fail
          refine hq.mono ?_
          rintro e u ⟨rfl, hu⟩
          obtain rfl := hu.symm
          go_wp2_with fail
          go_round
          case rel => exact ⟨k + 1, by omega, by omega, by go_num, HZ⟩
          case measure => simp only [intOf]; omega
        · have HZ : Hid (Z = E) := by have := HD.out; rwa [if_pos h0] at this
          have hqn : (E != 0) = true := by rw [bne_iff_ne]; exact h0
          clear HD h0
          go_wp2_with fail
          refine hq.mono ?_
          rintro e u ⟨rfl, hu⟩
          obtain rfl := hu.symm
          go_wp2_with fail
          go_ret
          exact ⟨by rw [HZ.out]; rfl, rfl⟩
      · obtain rfl : k = M := by omega
        have HZ : Hid (Z = 1) := by
          have := HS.out
          rw [(List.drop_eq_nil_of_le (by rw [← HM.out]; omega) : m.drop k = []), List.drop_eq_getElem_cons (by rw [← HN.out]; omega), cmpL] at this
          exact this.symm
        clear HS
        go_wp2_with fail
        go_ret
        exact ⟨by rw [HZ.out]; rfl, rfl⟩
    · obtain rfl : k = N := by omega
      by_cases hlm : k < M
      · have HZ : Hid (Z = -1) := by
          have := HS.out
          rw [(List.drop_eq_nil_of_le (by rw [← HN.out]; omega) : l.drop k = []), List.drop_eq_getElem_cons (by rw [← HM.out]; omega), cmpL] at this
          exact this.symm
        clear HS
        go_wp2_with fail
        go_ret
        exact ⟨by rw [HZ.out]; rfl, rfl⟩
      · have HZ : Hid (Z = 0) := by
          have := HS.out
          rw [(List.drop_eq_nil_of_le (by rw [← HN.out]; omega) : l.drop k = []), (List.drop_eq_nil_of_le (by rw [← HM.out]; omega) : m.drop k = []), cmpL] at this
          exact this.symm
        clear HS
        go_wp2_with fail
        go_ret
        exact ⟨by rw [HZ.out]; rfl, rfl⟩

theorem Nn.errsF_len' : ∀ (l : List Nn.Name) (i : Nat), Nn.errsF i l = 0 → i ≤ 8 → i + l.length ≤ 8
  | [], i, _, h => by simpa using h
  | s :: l, i, h, hi => by
    rw [Nn.errsF] at h
    split at h
    · simp at h
    split at h
    · rename_i q; exact absurd h q
    · have := Nn.errsF_len' l (i + 1) h (by omega)
      simp only [List.length_cons]
      omega
theorem Nn.errs_len' {l : List Nn.Name} (h : Nn.errs l = 0) : l.length ≤ 8 := by have := Nn.errsF_len' l 0 h (by omega); omega
/-- a list of names that is right is short -/
theorem split_len {p : List UInt8} (h : (Nn.split p).2 = 0) : (Nn.split p).1.length ≤ 8 := by
  have hj := Nn.split_join (p := p) (m := (Nn.split p).1) (Prod.ext rfl h)
  exact Nn.errs_len' (Nn.join_ok hj).1

set_option maxHeartbeats 1000000 in
theorem less_any (a b : ByteArray) (w : World) (ha : a.size ≤ 140737488351232) (hb : b.size ≤ 140737488351232) (hT : Tabs w) :
    Calls Tryz.prog 47 #[.string a, .string b] w fun e w' => e = .returned (.tuple #[.bool (Nn.less a.data.toList b.data.toList).1, .int .i64 (Nn.less a.data.toList b.data.toList).2]) ∧ Below w.heap.size w w' := by
  have h1 := split_any a w (by omega) hT
  have HT : Hid (Tabs w) := hT
  by_cases e1 : (Nn.split a.data.toList).2 = 0
  · by_cases e2 : (Nn.split b.data.toList).2 = 0
    · have HL : Hid (Nn.less a.data.toList b.data.toList = (Nn.ahead (Nn.split a.data.toList).1 (Nn.split b.data.toList).1, 0)) := by
        show _ = _
        unfold Nn.less
        rw [if_neg (by simpa using e1), if_neg (by simpa using e2)]
      have k1 := split_len e1
      have k2 := split_len e2
      go_enter Tryz.func47, Tryz.ntmps47
      go_wp2_with fail
      refine h1.mono ?_
      rintro e w1 ⟨v1, l1, rfl, hd1, x1, _, b1⟩
      have h2 := split_any b w1 (by omega) (HT.out.below b1)
      rw [← hd1] at HL k1
      rw [e1]
      clear h1 hd1 e1
      go_wp2_with fail
      refine h2.mono ?_
      rintro e w2 ⟨v2, l2, rfl, hd2, x2, _, b2⟩
      rw [← hd2] at HL k2
      rw [e2]
      rw [dl_length] at k1 k2
      have hq := cmpL_any v1 v2 l1 l2 w2 (x1.below b2) x2 (by omega) (by omega)
      have HB : Hid (Below w.heap.size w w2) := b1.trans (b2.mono b1.size)
      have HC : Hid (decide (cmpL l1 l2 < 0) = Nn.ahead (dl l1) (dl l2)) := cmpL_ahead l1 l2
      obtain ⟨a1, c1, rfl⟩ := x1.slice
      obtain ⟨a2, c2, rfl⟩ := x2.slice
      generalize cmpL l1 l2 = Z at *
      clear h2 hd2 e2 x1 x2 b1 b2
      go_wp2_with fail
      refine hq.mono ?_
      rintro e u ⟨rfl, hu⟩
      obtain rfl := hu.symm
      go_wp2_with fail
      go_ret2
      exact ⟨by rw [HL.out, ← HC.out]; rfl, HB.out⟩
    · have HL : Hid (Nn.less a.data.toList b.data.toList = (false, (Nn.split b.data.toList).2)) := by
        show _ = _
        unfold Nn.less
        rw [if_neg (by simpa using e1), if_pos e2]
      go_enter Tryz.func47, Tryz.ntmps47
      go_wp2_with fail
      refine h1.mono ?_
      rintro e w1 ⟨v1, l1, rfl, _, x1, _, b1⟩
      have h2 := split_any b w1 (by omega) (HT.out.below b1)
      have HB : Hid (Below w.heap.size w w1) := b1
      rw [e1]
      obtain ⟨a1, c1, rfl⟩ := x1.slice
      clear h1 e1 x1 b1
      go_wp2_with fail
      refine h2.mono ?_
      rintro e w2 ⟨v2, l2, rfl, _, x2, _, b2⟩
      have HB2 : Hid (Below w.heap.size w w2) := HB.out.trans (b2.mono HB.out.size)
      obtain ⟨a2, c2, rfl⟩ := x2.slice
      generalize (Nn.split b.data.toList).2 = E at *
      have hqn : (E != 0) = true := by rw [bne_iff_ne]; exact e2
      clear h2 e2 x2 b2
      go_wp2_with fail
      go_ret2
      exact ⟨by rw [HL.out]; rfl, HB2.out⟩
  · have HL : Hid (Nn.less a.data.toList b.data.toList = (false, (Nn.split a.data.toList).2)) := by
      show _ = _
      unfold Nn.less
      rw [if_pos e1]
    go_enter Tryz.func47, Tryz.ntmps47
    go_wp2_with fail
    refine h1.mono ?_
    rintro e w1 ⟨v1, l1, rfl, _, x1, _, b1⟩
    have HB : Hid (Below w.heap.size w w1) := b1
    obtain ⟨a1, c1, rfl⟩ := x1.slice
    generalize (Nn.split a.data.toList).2 = E at *
    have hqn : (E != 0) = true := by rw [bne_iff_ne]; exact e1
    clear h1 e1 x1 b1
    go_wp2_with fail
    go_ret2
    exact ⟨by rw [HL.out]; rfl, HB.out⟩
end Go.Proofs.YtimdioacmojkeabGreatDoor

namespace Go.Proofs
open Go.Shelf
def Tryz.lays110_ren : Go.Shelf.Ren := ⟨fun | 110 => 31 | 109 => 48 | n => n, fun | 31 => 38 | 9 => 9 | 4 => 4 | 3 => 3 | 0 => 0 | n => n, fun | n => n⟩
theorem Tryz.lays110 : Go.Proofs.Lays.n110 Tryz.prog Tryz.lays110_ren := {
  mixed := by kernel_rfl
  f109 := Tryz.func48.trans (congrArg some (by kernel_rfl))
  f110 := Tryz.func31.trans (congrArg some (by kernel_rfl))
  t0 := Tryz.underlying0
  a0 := Tryz.isAgg0
  z0 := Tryz.sizeOf0
  v0 := Tryz.zeroValue0
  t3 := Tryz.underlying3
  a3 := Tryz.isAgg3
  z3 := Tryz.sizeOf3
  v3 := Tryz.zeroValue3
  t4 := Tryz.underlying4
  a4 := Tryz.isAgg4
  z4 := Tryz.sizeOf4
  v4 := Tryz.zeroValue4
  t9 := Tryz.underlying9
  a9 := Tryz.isAgg9
  z9 := Tryz.sizeOf9
  v9 := Tryz.zeroValue9
  t31 := Tryz.underlying38
  a31 := Tryz.isAgg38
  z31 := Tryz.sizeOf38
  v31 := Tryz.zeroValue38 }
open Go.Lib in
theorem Tryz.slices_Contains_string (b off n c : Nat) (zs : List ByteArray) (x : ByteArray) (w : World) (hz : n ≤ zs.length) (hbig : n ≤ 9223372036854775807) (hc : ∀ j, j < zs.length → w.cell? ⟨b, off + j, none⟩ = some (.string (zs.getD j ByteArray.empty))) :
    Calls Tryz.prog 31 #[.slice (some ⟨b, off, none⟩) n c, .string x] w fun e w' => e = .returned (.bool (Lib.containsS (zs.take n) x)) ∧ w' = w := Any.slices_Contains_string Tryz.lays110 b off n c zs x w hz hbig hc
open Go.Lib in
theorem Tryz.slices_Contains_string_empty (a : Option Addr) (c : Nat) (x : ByteArray) (w : World) :
    Calls Tryz.prog 31 #[.slice a 0 c, .string x] w fun e w' => e = .returned (.bool false) ∧ w' = w := Any.slices_Contains_string_empty Tryz.lays110 a c x w
end Go.Proofs

namespace Go.Proofs.YtimdioacmojkeabGreatDoor
open Go.RowKit
set_option maxRecDepth 4000

def mbN (k : Int) : Int := if k = 1 then 4096 else if k = 3 then 1024 else 0

def knB (k : Int) : Bool := decide (k = 1 ∨ k = 2 ∨ k = 3)

theorem most_any (k : Int) (w : World) :
    Calls Tryz.prog 46 #[.int .i64 k] w fun e w' => e = .returned (.tuple #[.int .i64 (mbN k), .bool (knB k)]) ∧ w' = w := by
  by_cases h1 : k = 1
  · subst h1
    go_enter Tryz.func46, Tryz.ntmps46
    go_wp2_with fail
    go_ret2
    exact ⟨rfl, rfl⟩
  by_cases h2 : k = 2
  · subst h2
    go_enter Tryz.func46, Tryz.ntmps46
    go_wp2_with fail
    go_ret2
    exact ⟨rfl, rfl⟩
  by_cases h3 : k = 3
  · subst h3
    go_enter Tryz.func46, Tryz.ntmps46
    go_wp2_with fail
    go_ret2
    exact ⟨rfl, rfl⟩
  have HE : Hid (knB k = false ∧ mbN k = 0) := ⟨decide_eq_false fun h => by omega, by unfold mbN; rw [if_neg h1, if_neg h3]⟩
  have e1 : (k == 1) = false := beq_eq_false_iff_ne.2 h1
  have e2 : (k == 2) = false := beq_eq_false_iff_ne.2 h2
  have e3 : (k == 3) = false := beq_eq_false_iff_ne.2 h3
  go_enter Tryz.func46, Tryz.ntmps46
  go_wp2_with fail
  go_ret2
  exact ⟨by rw [HE.out.1, HE.out.2]; rfl, rfl⟩

theorem mb_iff {kind : Int} (hk : kind = 1 ∨ kind = 2 ∨ kind = 3) (l : List UInt8) : ((l.length : Int) > mbN kind) ↔ ((kind = 1 ∧ 4096 < l.length) ∨ (kind = 2 ∧ l ≠ []) ∨ (kind = 3 ∧ 1024 < l.length)) := by
  have h0 : l ≠ [] ↔ 0 < l.length := List.length_pos_iff.symm
  rw [h0]
  rcases hk with rfl | rfl | rfl
  · show (l.length : Int) > 4096 ↔ _
    omega
  · show (l.length : Int) > 0 ↔ _
    omega
  · show (l.length : Int) > 1024 ↔ _
    omega

theorem behind_any (a b : ByteArray) (w : World) (ha : a.size ≤ 140737488351232) (hb : b.size ≤ 140737488351232) (hT : Tabs w) :
    Calls Tryz.prog 30 #[.string a, .string b] w fun e w' => e = .returned (.bool (Nn.less b.data.toList a.data.toList).1) ∧ Below w.heap.size w w' := by
  have hl := less_any b a w hb ha hT
  generalize (Nn.less b.data.toList a.data.toList).1 = L at *
  generalize (Nn.less b.data.toList a.data.toList).2 = E at *
  clear hT
  go_enter Tryz.func30, Tryz.ntmps30
  go_wp2_with fail
  refine hl.mono ?_
  rintro e w1 ⟨rfl, b1⟩
  have HB : Hid (Below w.heap.size w w1) := b1
  clear hl b1
  go_wp2_with fail
  go_ret
  exact ⟨rfl, HB.out⟩

set_option maxHeartbeats 2000000 in
theorem citem_any (x : Im) (w : World) (hx : x.Ok) (hT : Tabs w) :
    Calls Tryz.prog 29 #[imV x] w fun e w' => e = .returned (.int .i64 (Wk.iErr x.it)) ∧ Below w.heap.size w w' := by
  obtain ⟨path, kind, mode, time, bytes⟩ := x
  obtain ⟨W1, hW1⟩ : ∃ W1, W1 = w.alloc (.cells #[.string path, .int .i64 kind, .int .i64 mode, .int .i64 time, .string bytes] 36) := ⟨_, rfl⟩
  have hB1 : Below w.heap.size w W1 := by rw [hW1]; exact (Below.refl _ w).alloc (Nat.le_refl _) _
  have HB1 : Hid (Below w.heap.size w W1) := hB1
  have HM : Hid (W1.heap[w.heap.size]? = some (.cells #[.string path, .int .i64 kind, .int .i64 mode, .int .i64 time, .string bytes] 36 (0, 0))) := by rw [hW1]; exact heap_alloc_new w _
  have hsp := split_any path W1 (by have := hx.path; have : path.size ≤ 140737488351232 := this; omega) (hT.below hB1)
  have hmost := fun W => most_any kind W
  obtain ⟨E, hE⟩ : ∃ E, E = Wk.iErr (Im.it ⟨path, kind, mode, time, bytes⟩) := ⟨_, rfl⟩
  rw [← hE]
  have hbz : bytes.data.toList.length = bytes.size := (Lib.size_eq bytes).symm
  have HE : Hid (E = if (Nn.split path.data.toList).2 ≠ 0 then (Nn.split path.data.toList).2 else if (Nn.split path.data.toList).1 = [] then 8 else if kind ≠ 1 ∧ kind ≠ 2 ∧ kind ≠ 3 then 5 else if mode < 0 ∨ 511 < mode then 1
      else if (kind = 1 ∧ 4096 < bytes.data.toList.length) ∨ (kind = 2 ∧ bytes.data.toList ≠ []) ∨ (kind = 3 ∧ 1024 < bytes.data.toList.length) then 2 else if kind = 3 ∧ bytes.data.toList = [] then 4 else 0) := hE
  rw [hbz] at HE
  have HMb : Hid (∀ n : Int, n = mbN kind → knB kind = true → (((bytes.size : Int) > n) ↔ ((kind = 1 ∧ 4096 < bytes.size) ∨ (kind = 2 ∧ bytes.data.toList ≠ []) ∨ (kind = 3 ∧ 1024 < bytes.size)))) := by
    intro n hn hk
    have hk' : kind = 1 ∨ kind = 2 ∨ kind = 3 := of_decide_eq_true hk
    subst hn
    have := mb_iff hk' bytes.data.toList
    rw [hbz] at this
    exact this
  have HKn : Hid (knB kind = false ↔ (kind ≠ 1 ∧ kind ≠ 2 ∧ kind ≠ 3)) := by
    show _ ↔ _
    unfold knB
    rw [decide_eq_false_iff_not]
    omega
  unfold SpOut at hsp
  rcases hS : Nn.split path.data.toList with ⟨sl, se⟩
  rw [hS] at hsp HE
  dsimp only at hsp HE
  have hbz2 : bytes.size ≤ 140737488351232 := hx.bytes
  obtain ⟨m0, m1, m2, m3, m4, mlt⟩ := five_at HM.out
  generalize hmb : mbN kind = MB at *
  generalize hkn : knB kind = KN at *
  clear hE hbz hx hT hB1 hS
  go_enter Tryz.func29, Tryz.ntmps29
  go_wp2_with fail
  rw [← hW1]
  clear hW1
  refine hsp.mono ?_
  rintro e w2 ⟨v, l, rfl, hdl, htx, _, b2⟩
  have HB2 : Hid (Below w.heap.size w w2) := HB1.out.trans (b2.mono HB1.out.size)
  obtain ⟨n0, n1, n2, n3, n4, nlt⟩ := five_at ((b2.block _ (Array.getElem?_eq_some_iff.1 HM.out).1).trans HM.out)
  obtain ⟨a, c, rfl⟩ := htx.slice
  have hl0 : l.length = 0 ↔ sl = [] := by
    rw [← dl_length, hdl]
    exact List.length_eq_zero_iff
  have HL0 : Hid (l.length = 0 ↔ sl = []) := hl0
  generalize l.length = LN at *
  clear hsp b2 htx hdl m0 m1 m2 m3 m4 mlt hl0
  by_cases c1 : se = 0
  case neg =>
    have hne : (se != 0) = true := by rw [bne_iff_ne]; exact c1
    have HEe : Hid (E = se) := by show _ = _; rw [HE.out, if_pos c1]
    clear HE c1
    go_wp2_with fail
    go_ret
    exact ⟨by rw [HEe.out]; rfl, HB2.out⟩
  have hne : (se != 0) = false := by rw [c1]; rfl
  by_cases c2 : LN = 0
  · have HEe : Hid (E = 8) := by show _ = _; rw [HE.out, if_neg (fun q => q c1), if_pos (HL0.out.1 c2)]
    subst c2
    clear HE c1
    go_wp2_with fail
    go_ret
    exact ⟨by rw [HEe.out]; rfl, HB2.out⟩
  have c2' : ¬ sl = [] := fun q => c2 (HL0.out.2 q)
  have hl1 : (((LN : Nat) : Int) == 0) = false := by rw [beq_eq_false_iff_ne]; omega
  cases KN with
  | false =>
    have HEe : Hid (E = 5) := by show _ = _; rw [HE.out, if_neg (fun q => q c1), if_neg c2', if_pos (HKn.out.1 rfl)]
    clear HE c1 c2 c2' HMb HKn
    go_wp2_with fail
    refine (hmost _).mono ?_
    rintro e u ⟨rfl, hu⟩
    obtain rfl := hu.symm
    go_wp2_with fail
    go_ret
    exact ⟨by rw [HEe.out]; rfl, HB2.out⟩
  | true =>
    have c3 : ¬ (kind ≠ 1 ∧ kind ≠ 2 ∧ kind ≠ 3) := fun q => by have := HKn.out.2 q; cases this
    have hMb := HMb.out MB rfl rfl
    have HE2 : Hid (E = if mode < 0 ∨ 511 < mode then 1 else if (bytes.size : Int) > MB then 2 else if kind = 3 ∧ bytes.data.toList = [] then 4 else 0) := by
      show _ = _
      rw [HE.out, if_neg (fun q => q c1), if_neg c2', if_neg c3]
      by_cases q : (bytes.size : Int) > MB
      · rw [if_pos q, if_pos (hMb.1 q)]
      · rw [if_neg q, if_neg (fun z => q (hMb.2 z))]
    clear HE c1 c2 c2' HMb HKn c3 hMb hkn
    go_wp2_with fail
    refine (hmost _).mono ?_
    rintro e u ⟨rfl, hu⟩
    obtain rfl := hu.symm
    clear hmost hu hmb
    by_cases q1 : mode < 0
    · have HEe : Hid (E = 1) := by show _ = _; rw [HE2.out, if_pos (.inl q1)]
      clear HE2
      go_wp2_with fail
      go_ret
      exact ⟨by rw [HEe.out]; rfl, HB2.out⟩
    by_cases q2 : 511 < mode
    · have HEe : Hid (E = 1) := by show _ = _; rw [HE2.out, if_pos (.inr q2)]
      clear HE2
      go_wp2_with fail
      go_ret
      exact ⟨by rw [HEe.out]; rfl, HB2.out⟩
    by_cases q3 : (bytes.size : Int) > MB
    · have HEe : Hid (E = 2) := by show _ = _; rw [HE2.out, if_neg (by omega), if_pos q3]
      clear HE2
      go_wp2_with fail
      go_ret
      exact ⟨by rw [HEe.out]; rfl, HB2.out⟩
    by_cases q4 : kind = 3
    · by_cases q5 : bytes = ⟨#[]⟩
      · have HEe : Hid (E = 4) := by show _ = _; rw [HE2.out, if_neg (by omega), if_neg q3, if_pos ⟨q4, by rw [q5]⟩]
        subst q4
        subst q5
        clear HE2
        go_wp2_with fail
        go_ret
        exact ⟨by rw [HEe.out]; rfl, HB2.out⟩
      · have HEe : Hid (E = 0) := by show _ = _; rw [HE2.out, if_neg (by omega), if_neg q3, if_neg (fun z => q5 (of_data z.2))]
        have hne5 : bytes.toList.isEmpty = false := by
          rw [Lib.toList_data]
          cases h : bytes.data.toList with
          | nil => exact absurd (of_data h) q5
          | cons b r => rfl
        subst q4
        clear HE2
        go_wp2_with fail
        go_ret
        exact ⟨by rw [HEe.out]; rfl, HB2.out⟩
    · have HEe : Hid (E = 0) := by show _ = _; rw [HE2.out, if_neg (by omega), if_neg q3, if_neg (fun z => q4 z.1)]
      have hk3 : (kind == 3) = false := beq_eq_false_iff_ne.2 q4
      clear HE2
      go_wp2_with fail
      go_ret
      exact ⟨by rw [HEe.out]; rfl, HB2.out⟩

end Go.Proofs.YtimdioacmojkeabGreatDoor

namespace Go.Proofs.YtimdioacmojkeabGreatDoor
open Go.RowKit
set_option maxRecDepth 4000

theorem info_stx : (Tryz.prog.info? 9).map (fun i => (i.zero, i.size, i.bytes)) = some (some (.string ⟨#[]⟩), 1, 16) := by kernel_rfl

theorem wErr_step {l : List Im} {j : Nat} {x : Im} (hx : l[j]? = some x) : Wk.wErrF (its (l.take j)) (its (l.drop j)) = if Wk.iErr x.it ≠ 0 then Wk.iErr x.it else if Wk.late (its (l.take j)) x.it = true then 4 else if Wk.lies (its (l.take j)) x.it = false then 9 else Wk.wErrF (its (l.take (j + 1))) (its (l.drop (j + 1))) := by
  have hlt := (List.getElem?_eq_some_iff.1 hx).1
  have e0 : its (l.drop j) = x.it :: its (l.drop (j + 1)) := by
    rw [List.drop_eq_getElem_cons hlt, (List.getElem?_eq_some_iff.1 hx).2]; rfl
  have e1 : its (l.take (j + 1)) = its (l.take j) ++ [x.it] := by
    rw [List.take_succ_eq_append_getElem hlt, (List.getElem?_eq_some_iff.1 hx).2]; simp [its]
  rw [e0, Wk.wErrF, e1]

theorem late_at {l : List Im} {j : Nat} {x y : Im} (hy : l[j]? = some y) : Wk.late (its (l.take (j + 1))) x.it = !(Nn.less y.path.data.toList x.path.data.toList).1 := by
  have hlt := (List.getElem?_eq_some_iff.1 hy).1
  have e1 : its (l.take (j + 1)) = its (l.take j) ++ [y.it] := by
    rw [List.take_succ_eq_append_getElem hlt, (List.getElem?_eq_some_iff.1 hy).2]; simp [its]
  unfold Wk.late
  rw [e1, List.getLast?_concat]
  rfl

theorem dirs_more {l : List Im} {j : Nat} {x : Im} (hx : l[j]? = some x) : Wk.dirs (its (l.take (j + 1))) = if x.kind = 2 then Wk.dirs (its (l.take j)) ++ [x.it.path] else Wk.dirs (its (l.take j)) := by
  have hlt := (List.getElem?_eq_some_iff.1 hx).1
  have e1 : its (l.take (j + 1)) = its (l.take j) ++ [x.it] := by
    rw [List.take_succ_eq_append_getElem hlt, (List.getElem?_eq_some_iff.1 hx).2]; simp [its]
  rw [e1, Wk.dirs_snoc]
  rfl

theorem cont_dirs {D : List ByteArray} {L : List Wk.Bs} (h : dl D = L) (p : Wk.Bs) : Lib.containsS D (mkB p) = decide (p ∈ L) := by
  rw [Bool.eq_iff_iff, Lib.containsS_iff, decide_eq_true_eq, ← h]
  constructor
  · intro hm
    exact List.mem_map.2 ⟨_, hm, rfl⟩
  · intro hm
    obtain ⟨b, hb, e⟩ := List.mem_map.1 hm
    have : b = mkB p := by
      rw [mkB, ← e]
    rw [← this]; exact hb

set_option maxHeartbeats 4000000 in
set_option maxRecDepth 10000 in
theorem wcheck_any (v : Value) (l : List Im) (w : World) (h : Ims w v l) (hl : l.length ≤ 140737488351232) (hok : ∀ x ∈ l, x.Ok) (hT : Tabs w) :
    Calls Tryz.prog 18 #[v] w fun e w' => e = .returned (.int .i64 (Wk.world (its l))) ∧ Below w.heap.size w w' := by
  obtain ⟨i0, hi, hz0, hz1, hz2⟩ := info_parts info_stx
  obtain ⟨a, c, rfl, hlc1, hlc2⟩ := h.slice
  by_cases h100 : 100 < l.length
  · have HE : Hid (Wk.world (its l) = 2) := by show _ = _; unfold Wk.world; rw [if_pos (by rw [its_length]; exact h100)]
    generalize l.length = n at *
    go_enter Tryz.func18, Tryz.ntmps18
    go_wp2_with fail
    go_ret
    exact ⟨by rw [HE.out]; rfl, Below.refl _ _⟩
  have HE0 : Hid (Wk.world (its l) = Wk.wErrF (its (l.take 0)) (its (l.drop 0))) := by
    show _ = _; unfold Wk.world; rw [if_neg (by rw [its_length]; exact h100)]; rfl
  obtain ⟨R, hR⟩ : ∃ R, R = Wk.world (its l) := ⟨_, rfl⟩
  rw [← hR] at HE0 ⊢
  have HX : Hid (Ims w (.slice a l.length c) l) := h
  have HK : Hid (∀ x ∈ l, x.Ok) := hok
  have HT : Hid (Tabs w) := hT
  have hl100 : l.length ≤ 100 := by omega
  obtain ⟨N, hN⟩ : ∃ N, N = l.length := ⟨_, rfl⟩
  have HN : Hid (N = l.length) := hN
  rw [← hN] at HX hl100 hlc1 hl ⊢
  have HD1 : Hid ((w.alloc (.cells #[.string ⟨#[]⟩] 9)).ownsRow w.heap.size 9 1 (.slice (some ⟨w.heap.size, 0, none⟩) 1 1) [mkB []].length ([mkB []].map Tv)) :=
    ⟨by simp, .inr ⟨w.heap.size, 1, #[.string ⟨#[]⟩], rfl, Nat.le_refl _, heap_alloc_new w _, Nat.le_refl _, by unfold maxLen; simp, rfl, rfl⟩⟩
  have HB1 : Hid (Below w.heap.size w (w.alloc (.cells #[.string ⟨#[]⟩] 9))) := (Below.refl _ w).alloc (Nat.le_refl _) _
  clear h hok hT h100 hR hN
  go_enter Tryz.func18, Tryz.ntmps18
  go_wp2_with fail
  go_loopw [3, 13] (fun vd i wr => ∃ (j : Nat) (D : List ByteArray), j ≤ N ∧ i = .int .i64 j ∧ D.length ≤ j + 1 ∧ Hid (dl D = Wk.dirs (its (l.take j))) ∧ Hid (R = Wk.wErrF (its (l.take j)) (its (l.drop j))) ∧ Hid (wr.ownsRow w.heap.size 9 1 vd D.length (D.map Tv)) ∧ Hid (Below w.heap.size w wr)) (fun _ i _ => N - (intOf i).toNat)
  case atStart => exact ⟨0, [mkB []], by omega, rfl, by simp, rfl, HE0, HD1, HB1⟩
  case round =>
    clear HE0 HD1 HB1
    obtain ⟨j, D, hj, rfl, hDj, HD, HE, HO, HB⟩ := hrel
    by_cases hlt : j < N
    · have hjl : j < l.length := by rw [← HN.out]; exact hlt
      obtain ⟨x, hx⟩ : ∃ x, l[j]? = some x := ⟨_, List.getElem?_eq_getElem hjl⟩
      have hxo := HK.out x (List.mem_of_getElem? hx)
      have hst := wErr_step hx
      have HSt : Hid (R = if Wk.iErr x.it ≠ 0 then Wk.iErr x.it else if Wk.late (its (l.take j)) x.it = true then 4 else if Wk.lies (its (l.take j)) x.it = false then 9 else Wk.wErrF (its (l.take (j + 1))) (its (l.drop (j + 1)))) := by
        show _ = _; rw [HE.out, hst]
      have HDm := dirs_more hx
      rw [← HD.out] at HDm
      have hXr := HX.out.below HB.out
      rw [HN.out] at hXr
      obtain ⟨kb, ko, rfl, hkb, x0, x1, x2, x3, x4⟩ := hXr.item j x hx
      have hci := fun W (hW : Below w.heap.size w W) => citem_any x W hxo (HT.out.below hW)
      obtain ⟨a3, c3, e3⟩ := own_form HO.out
      subst e3
      have hok1 : Wk.iErr x.it = 0 → Wk.Ok1 x.it := fun q => Wk.iErr_ok q
      have HP : Hid (Wk.iErr x.it = 0 → (∀ W, Calls Tryz.prog 32 #[.string x.path] W fun e w' => e = .returned (.string (mkB (Wk.par x.it))) ∧ w' = W) ∧ Wk.lies (its (l.take j)) x.it = decide (Wk.par x.it ∈ Wk.dirs (its (l.take j)))) := fun q =>
        ⟨fun W => parent_any x.path (Wk.par x.it) (Wk.nam x.it) W (path_parts (Wk.iErr_ok q)) (Wk.nam_slash (Wk.iErr_ok q)) (path_size (Wk.iErr_ok q) hxo.path), Wk.lies_dirs (Wk.iErr_ok q)⟩
      have HDm2 : Hid (Wk.dirs (its (l.take (j + 1))) = if x.kind = 2 then dl D ++ [x.it.path] else dl D) := HDm
      have HPt : Hid (mkB x.it.path = x.path) := rfl
      obtain ⟨WA, hWA⟩ : ∃ WA, WA = wr.alloc (.cells #[.string x.path, .int .i64 x.kind, .int .i64 x.mode, .int .i64 x.time, .string x.bytes] 36) := ⟨_, rfl⟩
      have hbA : Below wr.heap.size wr WA := by rw [hWA]; exact (Below.refl _ wr).alloc (Nat.le_refl _) _
      have HM : Hid (WA.heap[wr.heap.size]? = some (.cells #[.string x.path, .int .i64 x.kind, .int .i64 x.mode, .int .i64 x.time, .string x.bytes] 36 (0, 0))) := by rw [hWA]; exact heap_alloc_new wr _
      have HBA : Hid (Below w.heap.size w WA) := HB.out.trans (hbA.mono HB.out.size)
      have HOA : Hid (WA.ownsRow w.heap.size 9 1 (.slice a3 D.length c3) D.length (D.map Tv)) := own_below HO.out hbA
      have hciA := hci WA HBA.out
      obtain ⟨PB, hPB⟩ : ∃ PB, PB = wr.heap.size := ⟨_, rfl⟩
      have HPB : Hid (w.heap.size ≤ PB) := by show _ ≤ _; rw [hPB]; exact HB.out.size
      have HPl : Hid (x.path.size ≤ 140737488351232) := hxo.path
      rw [← hPB] at HM
      obtain ⟨DN, hDN⟩ : ∃ DN, DN = D.length := ⟨_, rfl⟩
      have HDN : Hid (DN = D.length) := hDN
      rw [← hDN] at HOA hDj ⊢
      have HHx : Hid (l[j]? = some x) := hx
      obtain ⟨xp, xk, xm, xt, xb⟩ := x
      dsimp only at *
      clear hst HDm hXr hci hbA hx hxo hok1 HE HO HB hDN
      go_wp2_with fail
      rw [← hWA]
      refine hciA.mono ?_
      rintro e w2 ⟨rfl, b2⟩
      have HB2 : Hid (Below w.heap.size w w2) := HBA.out.trans (b2.mono HBA.out.size)
      have hM2 : w2.heap[PB]? = some (.cells #[.string xp, .int .i64 xk, .int .i64 xm, .int .i64 xt, .string xb] 36 (0, 0)) := (b2.block _ (Array.getElem?_eq_some_iff.1 HM.out).1).trans HM.out
      have HM2 : Hid (w2.heap[PB]? = some (.cells #[.string xp, .int .i64 xk, .int .i64 xm, .int .i64 xt, .string xb] 36 (0, 0))) := hM2
      have HO2 : Hid (w2.ownsRow w.heap.size 9 1 (.slice a3 DN c3) DN (D.map Tv)) := own_below HOA.out b2
      obtain ⟨y0, y1, y2, y3, y4, ylt⟩ := five_at hM2
      rw [← hPB]
      clear hWA hciA b2 hM2 x0 x1 x2 x3 x4 hkb HM HOA HBA hPB
      by_cases hE : Wk.iErr (Im.it ⟨xp, xk, xm, xt, xb⟩) = 0
      case neg =>
        have HRe : Hid (R = Wk.iErr (Im.it ⟨xp, xk, xm, xt, xb⟩)) := by show _ = _; rw [HSt.out, if_pos hE]
        have hne : (Wk.iErr (Im.it ⟨xp, xk, xm, xt, xb⟩) != 0) = true := by rw [bne_iff_ne]; exact hE
        generalize Wk.iErr (Im.it ⟨xp, xk, xm, xt, xb⟩) = ER at *
        clear hE HSt HP
        go_wp2_with fail
        go_ret
        exact ⟨by rw [HRe.out]; rfl, HB2.out⟩
      obtain ⟨hpar, hlies⟩ := HP.out hE
      have HSt2 : Hid (R = if Wk.late (its (l.take j)) (Im.it ⟨xp, xk, xm, xt, xb⟩) = true then 4 else if Wk.lies (its (l.take j)) (Im.it ⟨xp, xk, xm, xt, xb⟩) = false then 9 else Wk.wErrF (its (l.take (j + 1))) (its (l.drop (j + 1)))) := by
        show _ = _; rw [HSt.out, if_neg (fun q => q hE)]
      rw [hE]
      obtain ⟨LT, hLT⟩ : ∃ LT, LT = Wk.late (its (l.take j)) (Im.it ⟨xp, xk, xm, xt, xb⟩) := ⟨_, rfl⟩
      have HLT : Hid (LT = Wk.late (its (l.take j)) (Im.it ⟨xp, xk, xm, xt, xb⟩)) := hLT
      clear HSt HP hLT hE
      go_upto_region 10 with fail
      go_cut [36] from 14 to 51 (fun y wx => y = .bool LT ∧ Hid (Below w.heap.size w wx ∧ Below w2.heap.size w2 wx))
      case first =>
        by_cases hj0 : j = 0
        · subst hj0
          have HL0 : Hid (LT = false) := by show _ = _; rw [HLT.out]; rfl
          have hd : decide ((0 : Int) > 0) = false := by decide
          go_region
          all_goals
            go_wp2_with fail
            go_meet
            exact ⟨by rw [HL0.out], HB2.out.drew, (Below.refl _ w2).drew⟩
        · obtain ⟨i, rfl⟩ : ∃ i, j = i + 1 := ⟨j - 1, by omega⟩
          have hil : i < l.length := by omega
          obtain ⟨y, hy⟩ : ∃ y, l[i]? = some y := ⟨_, List.getElem?_eq_getElem hil⟩
          have hyo := HK.out y (List.mem_of_getElem? hy)
          have hla := late_at (x := ⟨xp, xk, xm, xt, xb⟩) hy
          have hX2 := HX.out.below HB2.out
          rw [HN.out] at hX2
          obtain ⟨kb', ko', ee, hkb', u0, _⟩ := hX2.item i y hy
          cases ee
          have hbeh := fun W (hW : Below w2.heap.size w2 W) => behind_any xp y.path W HPl.out hyo.path (HT.out.below (HB2.out.trans (hW.mono HB2.out.size)))
          have HLT' : Hid (LT = Wk.late (its (l.take (i + 1))) (Im.it ⟨xp, xk, xm, xt, xb⟩)) := HLT
          rw [hla] at HLT
          dsimp only at HLT hbeh
          generalize (Nn.less y.path.data.toList xp.data.toList).1 = LS at *
          have hd : decide (((i : Int) + 1) > 0) = true := decide_eq_true (by omega)
          have hij : ((i : Int) + 1 - 1) = i := by omega
          have hgt : ((i : Int) + 1 > 0) := by omega
          have hwr : IntKind.i64.wrap (i : Int) = (i : Int) := by
            simp only [IntKind.wrap, IntKind.bits, IntKind.signed]
            simp
            omega
          have HcX : Hid (∀ W, Gw w2 W → W.cell? ⟨PB, 0, none⟩ = some (.string xp)) := fun W hW => (Below.cell hW (p := ⟨PB, 0, none⟩) ylt).trans y0
          have HcY : Hid (∀ W, Gw w2 W → W.cell? ⟨kb, ko + i * 5, none⟩ = some (.string y.path)) := fun W hW => (Below.cell hW (p := ⟨kb, ko + i * 5, none⟩) hkb').trans u0
          have hiN : (i : Int) < (N : Int) := by omega
          generalize y.path = yp at *
          clear hla hX2 hyo hy hil hj0 hjl HHx
          cases LS with
          | true =>
            have HLf : Hid (LT = false) := HLT
            refine wp_region_rel (G := Gw) (W0 := w2) Gw.refl Gw.trans (by kernel_rfl) (by kernel_rfl) (by kernel_rfl) (Below.refl _ w2).drew ?_
            refine .inl ⟨.int .i64 ((i : Int) + 1), fun v W hW hd => step_run rfl _ W (by clear hd; go_simp) rfl (Gw.refl _), ?_⟩
            simp only [Act.put, List.setIfInBounds_toArray, List.set_cons_zero, List.set_cons_succ]
            refine .inl ⟨.bool true, fun v W hW hd => step_run rfl _ W (by clear hd; have he := hgt; go_simp) rfl (Gw.refl _), ?_⟩
            simp only [Act.put, List.setIfInBounds_toArray, List.set_cons_zero, List.set_cons_succ]
            refine .inl ⟨.bool true, fun v W hW hd => step_run rfl _ W (by clear hd; go_simp) rfl (Gw.refl _), ?_⟩
            simp only [Act.put, List.setIfInBounds_toArray, List.set_cons_zero, List.set_cons_succ]
            refine .inl ⟨.pointer (some ⟨PB, 0, none⟩), fun v W hW hd => step_run rfl _ W (by clear hd; go_simp) rfl (Gw.refl _), ?_⟩
            simp only [Act.put, List.setIfInBounds_toArray, List.set_cons_zero, List.set_cons_succ]
            refine .inl ⟨.string xp, fun v W hW hd => step_run rfl _ W (by clear hd; have ce := HcX.out W hW; go_simp) rfl (Gw.refl _), ?_⟩
            simp only [Act.put, List.setIfInBounds_toArray, List.set_cons_zero, List.set_cons_succ]
            refine .inl ⟨.slice (some ⟨kb, ko, none⟩) N c, fun v W hW hd => step_run rfl _ W (by clear hd; go_simp) rfl (Gw.refl _), ?_⟩
            simp only [Act.put, List.setIfInBounds_toArray, List.set_cons_zero, List.set_cons_succ]
            refine .inl ⟨.int .i64 ((i : Int) + 1), fun v W hW hd => step_run rfl _ W (by clear hd; go_simp) rfl (Gw.refl _), ?_⟩
            simp only [Act.put, List.setIfInBounds_toArray, List.set_cons_zero, List.set_cons_succ]
            refine .inl ⟨.int .i64 (i : Int), fun v W hW hd => step_run rfl _ W (by clear hd; have he := hij; have hf := hwr; go_simp) rfl (Gw.refl _), ?_⟩
            simp only [Act.put, List.setIfInBounds_toArray, List.set_cons_zero, List.set_cons_succ]
            refine .inl ⟨.pointer (some ⟨kb, ko + i * 5, none⟩), fun v W hW hd => step_run rfl _ W (by clear hd; go_simp) rfl (Gw.refl _), ?_⟩
            simp only [Act.put, List.setIfInBounds_toArray, List.set_cons_zero, List.set_cons_succ]
            refine .inl ⟨.pointer (some ⟨kb, ko + i * 5, none⟩), fun v W hW hd => step_run rfl _ W (by clear hd; go_simp) rfl (Gw.refl _), ?_⟩
            simp only [Act.put, List.setIfInBounds_toArray, List.set_cons_zero, List.set_cons_succ]
            refine .inl ⟨.string yp, fun v W hW hd => step_run rfl _ W (by clear hd; have ce := HcY.out W hW; go_simp) rfl (Gw.refl _), ?_⟩
            simp only [Act.put, List.setIfInBounds_toArray, List.set_cons_zero, List.set_cons_succ]
            refine .inl ⟨.bool true, fun v W hW hd => step_call rfl 30 #[.string xp, .string yp] (by clear hd; go_simp) ((hbeh W hW).mono fun e w' h => ⟨_, h.1, rfl, h.2⟩), ?_⟩
            simp only [Act.put, List.setIfInBounds_toArray, List.set_cons_zero, List.set_cons_succ]
            refine .inl ⟨.bool false, fun v W hW hd => step_run rfl _ W (by clear hd; go_simp) rfl (Gw.refl _), ?_⟩
            simp only [Act.put, List.setIfInBounds_toArray, List.set_cons_zero, List.set_cons_succ]
            refine .inl ⟨.bool false, fun v W hW hd => step_run rfl _ W (by clear hd; go_simp) rfl (Gw.refl _), ?_⟩
            simp only [Act.put, List.setIfInBounds_toArray, List.set_cons_zero, List.set_cons_succ]
            intro v w3 hW3 hV
            clear hV
            have b3 : Below w2.heap.size w2 w3 := hW3
            clear hW3
            go_wp2_with fail
            go_meet
            exact ⟨by rw [HLf.out], HB2.out.trans (b3.mono HB2.out.size), b3⟩
          | false =>
            have HLf : Hid (LT = true) := HLT
            refine wp_region_rel (G := Gw) (W0 := w2) Gw.refl Gw.trans (by kernel_rfl) (by kernel_rfl) (by kernel_rfl) (Below.refl _ w2).drew ?_
            refine .inl ⟨.int .i64 ((i : Int) + 1), fun v W hW hd => step_run rfl _ W (by clear hd; go_simp) rfl (Gw.refl _), ?_⟩
            simp only [Act.put, List.setIfInBounds_toArray, List.set_cons_zero, List.set_cons_succ]
            refine .inl ⟨.bool true, fun v W hW hd => step_run rfl _ W (by clear hd; have he := hgt; go_simp) rfl (Gw.refl _), ?_⟩
            simp only [Act.put, List.setIfInBounds_toArray, List.set_cons_zero, List.set_cons_succ]
            refine .inl ⟨.bool true, fun v W hW hd => step_run rfl _ W (by clear hd; go_simp) rfl (Gw.refl _), ?_⟩
            simp only [Act.put, List.setIfInBounds_toArray, List.set_cons_zero, List.set_cons_succ]
            refine .inl ⟨.pointer (some ⟨PB, 0, none⟩), fun v W hW hd => step_run rfl _ W (by clear hd; go_simp) rfl (Gw.refl _), ?_⟩
            simp only [Act.put, List.setIfInBounds_toArray, List.set_cons_zero, List.set_cons_succ]
            refine .inl ⟨.string xp, fun v W hW hd => step_run rfl _ W (by clear hd; have ce := HcX.out W hW; go_simp) rfl (Gw.refl _), ?_⟩
            simp only [Act.put, List.setIfInBounds_toArray, List.set_cons_zero, List.set_cons_succ]
            refine .inl ⟨.slice (some ⟨kb, ko, none⟩) N c, fun v W hW hd => step_run rfl _ W (by clear hd; go_simp) rfl (Gw.refl _), ?_⟩
            simp only [Act.put, List.setIfInBounds_toArray, List.set_cons_zero, List.set_cons_succ]
            refine .inl ⟨.int .i64 ((i : Int) + 1), fun v W hW hd => step_run rfl _ W (by clear hd; go_simp) rfl (Gw.refl _), ?_⟩
            simp only [Act.put, List.setIfInBounds_toArray, List.set_cons_zero, List.set_cons_succ]
            refine .inl ⟨.int .i64 (i : Int), fun v W hW hd => step_run rfl _ W (by clear hd; have he := hij; have hf := hwr; go_simp) rfl (Gw.refl _), ?_⟩
            simp only [Act.put, List.setIfInBounds_toArray, List.set_cons_zero, List.set_cons_succ]
            refine .inl ⟨.pointer (some ⟨kb, ko + i * 5, none⟩), fun v W hW hd => step_run rfl _ W (by clear hd; go_simp) rfl (Gw.refl _), ?_⟩
            simp only [Act.put, List.setIfInBounds_toArray, List.set_cons_zero, List.set_cons_succ]
            refine .inl ⟨.pointer (some ⟨kb, ko + i * 5, none⟩), fun v W hW hd => step_run rfl _ W (by clear hd; go_simp) rfl (Gw.refl _), ?_⟩
            simp only [Act.put, List.setIfInBounds_toArray, List.set_cons_zero, List.set_cons_succ]
            refine .inl ⟨.string yp, fun v W hW hd => step_run rfl _ W (by clear hd; have ce := HcY.out W hW; go_simp) rfl (Gw.refl _), ?_⟩
            simp only [Act.put, List.setIfInBounds_toArray, List.set_cons_zero, List.set_cons_succ]
            refine .inl ⟨.bool false, fun v W hW hd => step_call rfl 30 #[.string xp, .string yp] (by clear hd; go_simp) ((hbeh W hW).mono fun e w' h => ⟨_, h.1, rfl, h.2⟩), ?_⟩
            simp only [Act.put, List.setIfInBounds_toArray, List.set_cons_zero, List.set_cons_succ]
            refine .inl ⟨.bool true, fun v W hW hd => step_run rfl _ W (by clear hd; go_simp) rfl (Gw.refl _), ?_⟩
            simp only [Act.put, List.setIfInBounds_toArray, List.set_cons_zero, List.set_cons_succ]
            refine .inl ⟨.bool true, fun v W hW hd => step_run rfl _ W (by clear hd; go_simp) rfl (Gw.refl _), ?_⟩
            simp only [Act.put, List.setIfInBounds_toArray, List.set_cons_zero, List.set_cons_succ]
            intro v w3 hW3 hV
            clear hV
            have b3 : Below w2.heap.size w2 w3 := hW3
            clear hW3
            go_wp2_with fail
            go_meet
            exact ⟨by rw [HLf.out], HB2.out.trans (b3.mono HB2.out.size), b3⟩
      case rest =>
      obtain ⟨rfl, hbb⟩ := hcut
      have HB3 : Hid (Below w.heap.size w wc) := hbb.out.1
      have HM3 : Hid (wc.heap[PB]? = some (.cells #[.string xp, .int .i64 xk, .int .i64 xm, .int .i64 xt, .string xb] 36 (0, 0))) := (hbb.out.2.block _ (Array.getElem?_eq_some_iff.1 HM2.out).1).trans HM2.out
      have HO3 : Hid (wc.ownsRow w.heap.size 9 1 (.slice a3 DN c3) DN (D.map Tv)) := own_below HO2.out hbb.out.2
      clear HB2 HM2 HO2 hbb y0 y1 y2 y3 y4 ylt
      obtain ⟨y0, y1, y2, y3, y4, ylt⟩ := five_at HM3.out
      have hpw : PB < wc.heap.size := ylt
      cases LT with
      | true =>
        have HRe : Hid (R = 4) := by show _ = _; rw [HSt2.out, ← HLT.out]; rfl
        clear HSt2 hlies hpar
        go_wp2_with fail
        go_ret
        exact ⟨by rw [HRe.out]; rfl, HB3.out⟩
      | false =>
      have HSt3 : Hid (R = if decide (Wk.par (Im.it ⟨xp, xk, xm, xt, xb⟩) ∈ dl D) = false then 9 else Wk.wErrF (its (l.take (j + 1))) (its (l.drop (j + 1)))) := by
        show _ = _
        rw [HSt2.out, ← HLT.out, if_neg (by decide), hlies, HD.out]
      have hcont : Calls Tryz.prog 31 #[.slice a3 DN c3, .string (mkB (Wk.par (Im.it ⟨xp, xk, xm, xt, xb⟩)))] wc fun e w' => e = .returned (.bool (decide (Wk.par (Im.it ⟨xp, xk, xm, xt, xb⟩) ∈ dl D))) ∧ w' = wc := by
        have hx := Tx.of_own (w := wc) (l := D) (v := .slice a3 DN c3) (base := w.heap.size) (by rw [← HDN.out]; exact HO3.out)
        by_cases hD0 : D = []
        · subst hD0
          have : DN = 0 := HDN.out
          subst this
          exact Tryz.slices_Contains_string_empty a3 c3 _ wc
        · have hpos : 0 < D.length := List.length_pos_iff.2 hD0
          obtain ⟨bk, o, rfl, hbk, _⟩ := hx.get 0 hpos
          have := Tryz.slices_Contains_string bk o DN c3 D (mkB (Wk.par (Im.it ⟨xp, xk, xm, xt, xb⟩))) wc (by rw [HDN.out]; exact Nat.le_refl _) (by omega) (fun q hq => by
            obtain ⟨bk', o', ee, _, hc⟩ := hx.get q hq
            cases ee
            exact hc)
          rw [HDN.out, List.take_of_length_le (Nat.le_refl _), ← HDN.out, cont_dirs rfl] at this
          exact this
      generalize mkB (Wk.par (Im.it ⟨xp, xk, xm, xt, xb⟩)) = PP at *
      generalize decide (Wk.par (Im.it ⟨xp, xk, xm, xt, xb⟩) ∈ dl D) = CT at *
      clear HSt2 hlies HLT
      cases CT with
      | false =>
        have HRe : Hid (R = 9) := by show _ = _; rw [HSt3.out]; rfl
        clear HSt3
        go_wp2_with fail
        refine (hpar _).mono ?_
        rintro e u ⟨rfl, hu⟩
        obtain rfl := hu.symm
        clear hu
        go_wp2_with fail
        refine hcont.mono ?_
        rintro e u ⟨rfl, hu⟩
        obtain rfl := hu.symm
        clear hu
        go_wp2_with fail
        go_ret
        exact ⟨by rw [HRe.out]; rfl, HB3.out⟩
      | true =>
        have HRn : Hid (R = Wk.wErrF (its (l.take (j + 1))) (its (l.drop (j + 1)))) := by show _ = _; rw [HSt3.out]; rfl
        clear HSt3
        go_wp2_with fail
        refine (hpar _).mono ?_
        rintro e u ⟨rfl, hu⟩
        obtain rfl := hu.symm
        clear hu hpar
        go_wp2_with fail
        refine hcont.mono ?_
        rintro e u ⟨rfl, hu⟩
        obtain rfl := hu.symm
        clear hu hcont
        by_cases hk2 : xk = 2
        · have HDn : Hid (dl (D ++ [xp]) = Wk.dirs (its (l.take (j + 1)))) := by
            show _ = _
            rw [HDm2.out, if_pos hk2]
            show (D ++ [xp]).map _ = D.map _ ++ _
            rw [List.map_append]; rfl
          have hown := HO3.out
          have hws := HB3.out.size
          subst hk2
          go_wp2_with (at_builtin; refine wpList_append_own _ rfl (.tmp 46) (.tmp 49) 38 rfl w.heap.size 9 i0 (.string ⟨#[]⟩) 1 16 Tryz.underlying38 hi hz0 hz1 hz2 rfl (by decide) _ _ _ rfl (hown.alloc _) ⟨wc.heap.size, 0, none⟩ 1 1 [.string xp] rfl rfl ?c1 ?c2 ?c3 ?c4 ?c5 ?_)
          case c1 => intro q u hq; match q, hq with | 0, hq => simp at hq; subst hq; simp [Addr.add]
          case c2 => simp [Value.oneCell']
          case c3 => unfold maxLen; omega
          case c4 => omega
          case c5 => simp; omega
          intro v1 w5 hown5 hgrow _
          have hB5 : Below w.heap.size w w5 := (HB3.out.alloc hws _).grown hgrow (by rw [World.size_alloc]; omega) fun q hq => (hown.lt q hq).1
          have HB5 : Hid (Below w.heap.size w w5) := hB5
          have HO5 : Hid (w5.ownsRow w.heap.size 9 1 v1 (D ++ [xp]).length ((D ++ [xp]).map Tv)) := by
            show World.ownsRow _ _ _ _ _ _ _
            rw [List.length_append, ← HDN.out, List.map_append]
            exact hown5
          have hD5 : (D ++ [xp]).length ≤ j + 1 + 1 := by rw [List.length_append, ← HDN.out]; simp; omega
          clear hown5 hgrow hown hB5
          go_wp2_with fail
          go_roundw
          case measure => simp only [intOf]; omega
          case rel => exact ⟨j + 1, D ++ [xp], by omega, by go_num, hD5, HDn, HRn, HO5, HB5⟩
        · have HDn : Hid (dl D = Wk.dirs (its (l.take (j + 1)))) := by show _ = _; rw [HDm2.out, if_neg hk2]
          have hk2' : (xk == 2) = false := beq_eq_false_iff_ne.2 hk2
          have hD5 : D.length ≤ j + 1 + 1 := by rw [← HDN.out]; omega
          have HO5 : Hid (wc.ownsRow w.heap.size 9 1 (.slice a3 DN c3) D.length (D.map Tv)) := by rw [← HDN.out]; exact HO3.out
          clear hk2
          go_wp2_with fail
          go_roundw
          case measure => simp only [intOf]; omega
          case rel => exact ⟨j + 1, D, by omega, by go_num, hD5, HDn, HRn, HO5, HB3⟩
    · obtain rfl : j = N := by omega
      have HRe : Hid (R = 0) := by
        have e : l.drop j = [] := by rw [HN.out]; exact List.drop_of_length_le (Nat.le_refl _)
        show _ = _
        rw [HE.out, e]; rfl
      clear HE
      go_wp2_with fail
      go_ret
      exact ⟨by rw [HRe.out]; rfl, HB.out⟩

end Go.Proofs.YtimdioacmojkeabGreatDoor

namespace Go.Proofs.YtimdioacmojkeabGreatDoor
open Go.RowKit
set_option maxRecDepth 4000
open Nn (Name)

theorem dir_all {base b m : Nat} {fx mn mx bt : Int} {W0 : List Im} (hg : Gd fx mn mx bt W0) : ∀ k, 1 ≤ k → DirOk base b m fx mn mx bt W0 k
  | 0, h => by omega
  | k + 1, _ => dir_step hg k fun h => dir_all hg k h

/-- what Plant tells, in plain words -/
def plantP (fx mn mx bt : Int) (l : List Wk.It) : List Pk.Bl × Wk.Bs × Int :=
  if wayN fx mn mx bt ≠ 0 then ([], [], wayN fx mn mx bt) else if Wk.world l ≠ 0 then ([], [], Wk.world l) else Wk.plantDir (cutF fx mn mx bt) l 9 [] []

theorem dI_all {l : List Im} (h : Wk.world (its l) = 0) : dI l 9 [] = l := by
  obtain ⟨_, hr⟩ := Wk.world_ok h
  have hs : Wk.Sorted (fun x : Im => x.it.nms) l := by
    have := hr.sorted
    unfold Wk.Sorted its at this
    rw [List.pairwise_map] at this
    exact this
  have hc : Wk.Closed (fun x : Im => x.it.nms) (fun x => x.it.dir) l := fun x hx => by
    obtain ⟨c1, c2⟩ := hr.closed _ (List.mem_map_of_mem (f := Im.it) hx)
    refine ⟨c1, c2.imp id fun ⟨y, hy, e1, e2⟩ => ?_⟩
    obtain ⟨z, hz, rfl⟩ := List.mem_map.1 hy
    exact ⟨z, hz, e1, e2⟩
  refine Wk.dfs_all hs hc 9 fun x hx => ?_
  have := Wk.names_few (Wk.iErr_ok (hr.each _ (List.mem_map_of_mem (f := Im.it) hx)))
  omega

/-- what Plant answers -/
def PlOut (fx mn mx bt : Int) (l : List Im) (w : World) (e : Ending) (w' : World) : Prop :=
  ∃ v id, e = .returned (.tuple #[v, idV id, .int .i64 (plantP fx mn mx bt (its l)).2.2]) ∧ id.length = 8 ∧ Below w.heap.size w w' ∧ ((plantP fx mn mx bt (its l)).2.2 ≠ 0 → v = .slice none 0 0 ∧ id = List.replicate 8 0) ∧
    ((plantP fx mn mx bt (its l)).2.2 = 0 → ∃ bs, pl bs = (plantP fx mn mx bt (its l)).1 ∧ id = (plantP fx mn mx bt (its l)).2.1 ∧ w'.ownsRow w.heap.size 42 2 v bs.length (rowR blC bs) ∧ bs.length ≤ 1000000)

set_option maxHeartbeats 4000000 in
set_option maxRecDepth 10000 in
theorem plant_any (fx mn mx bt : Int) (v : Value) (l : List Im) (w : World) (h : Ims w v l) (hl : l.length ≤ 140737488351232) (hok : ∀ x ∈ l, x.Ok) (hT : Tabs w) :
    Calls Tryz.prog 6 #[wayV fx mn mx bt, v] w (PlOut fx mn mx bt l w) := by
  unfold PlOut
  obtain ⟨P, hP⟩ : ∃ P, P = plantP fx mn mx bt (its l) := ⟨_, rfl⟩
  rw [← hP]
  have HP : Hid (P = if wayN fx mn mx bt ≠ 0 then ([], [], wayN fx mn mx bt) else if Wk.world (its l) ≠ 0 then ([], [], Wk.world (its l)) else Wk.plantDir (cutF fx mn mx bt) (its l) 9 [] []) := hP
  obtain ⟨a, c, rfl, hlc1, hlc2⟩ := h.slice
  obtain ⟨W2, hW2⟩ : ∃ W2, W2 = (w.alloc (.cells #[.int .i64 fx, .int .i64 mn, .int .i64 mx, .int .i64 bt] 25)).alloc (.cells #[.int .u8 0, .int .u8 0, .int .u8 0, .int .u8 0, .int .u8 0, .int .u8 0, .int .u8 0, .int .u8 0] 30) := ⟨_, rfl⟩
  obtain ⟨t1, t2, t3, t4⟩ := two_new w (.cells #[.int .i64 fx, .int .i64 mn, .int .i64 mx, .int .i64 bt] 25) (.cells #[.int .u8 0, .int .u8 0, .int .u8 0, .int .u8 0, .int .u8 0, .int .u8 0, .int .u8 0, .int .u8 0] 30)
  rw [← hW2] at t1 t2 t3 t4
  have HB2 : Hid (Below w.heap.size w W2) := t4
  have HS2 : Hid (W2.heap.size = w.heap.size + 2) := t3
  have HI2 : Hid (W2.heap[w.heap.size + 1]? = some (.cells Z8 30 (0, 0))) := t2
  have HY2 : Hid (W2.heap[w.heap.size]? = some (.cells #[.int .i64 fx, .int .i64 mn, .int .i64 mx, .int .i64 bt] 25 (0, 0))) := t1
  have HX : Hid (Ims w (.slice a l.length c) l) := h
  have HVb : Hid (∀ a' n c', Value.slice a l.length c = .slice (some a') n c' → l ≠ [] → a'.block < w.heap.size) := fun a' n c' e hl0 => by
    rcases h.at_ with ⟨_, e2⟩ | ⟨bk, o, cap, e2, h3, _⟩
    · exact absurd e2 hl0
    · rw [e2] at e; cases e; exact h3
  have HK : Hid (∀ x ∈ l, x.Ok) := hok
  have HT : Hid (Tabs w) := hT
  have hway := wayok_any fx mn mx bt W2
  have hchk := fun W (hW : Below w.heap.size w W) => wcheck_any _ l W (HX.out.below hW) hl HK.out (HT.out.below hW)
  obtain ⟨c0, c1, c2, c3⟩ : W2.cell? ⟨w.heap.size, 0, none⟩ = some (.int .i64 fx) ∧ W2.cell? ⟨w.heap.size, 1, none⟩ = some (.int .i64 mn) ∧ W2.cell? ⟨w.heap.size, 2, none⟩ = some (.int .i64 mx) ∧ W2.cell? ⟨w.heap.size, 3, none⟩ = some (.int .i64 bt) := by
    refine ⟨?_, ?_, ?_, ?_⟩ <;> simp [World.cell?, t1]
  obtain ⟨LN, hLN⟩ : ∃ LN, LN = l.length := ⟨_, rfl⟩
  have HLN : Hid (LN = l.length) := hLN
  rw [← hLN] at HX hchk HVb ⊢
  clear hP h hok hT t1 t2 t3 t4 hLN hlc1 hlc2 hl
  go_enter Tryz.func6, Tryz.ntmps6
  go_upto_region 1 with fail
  rw [← hW2]
  clear hW2
  go_wp2_with fail
  refine hway.mono ?_
  rintro e w3 ⟨rfl, b3⟩
  have HB3 : Hid (Below w.heap.size w w3) := HB2.out.trans (b3.mono HB2.out.size)
  have hI3 : w3.heap[w.heap.size + 1]? = some (.cells Z8 30 (0, 0)) := (b3.block _ (Array.getElem?_eq_some_iff.1 HI2.out).1).trans HI2.out
  have HI3 : Hid (w3.heap[w.heap.size + 1]? = some (.cells Z8 30 (0, 0))) := hI3
  have HY3 : Hid (w3.heap[w.heap.size]? = some (.cells #[.int .i64 fx, .int .i64 mn, .int .i64 mx, .int .i64 bt] 25 (0, 0))) := (b3.block _ (Array.getElem?_eq_some_iff.1 HY2.out).1).trans HY2.out
  clear hway b3 c0 c1 c2 c3
  by_cases hE : wayN fx mn mx bt = 0
  case neg =>
    have hRe : P = ([], [], wayN fx mn mx bt) := by rw [HP.out, if_pos hE]
    obtain ⟨ER, hER⟩ : ∃ ER, wayN fx mn mx bt = ER := ⟨_, rfl⟩
    rw [hER] at hRe hE ⊢
    clear HP
    subst hRe
    have hne : (ER != 0) = true := by rw [bne_iff_ne]; exact hE
    have HE : Hid (ER ≠ 0) := hE
    obtain ⟨z0, z1, z2, z3, z4, z5, z6, z7⟩ := I8.cells (b0 := 0) (b1 := 0) (b2 := 0) (b3 := 0) (b4 := 0) (b5 := 0) (b6 := 0) (b7 := 0) (I8.zero hI3)
    obtain ⟨f0, f1, f2, f3, f4, f5, f6, f7⟩ := (I8.zero hI3).free
    have HB9 : Hid (Below w.heap.size w (set8 w3 (w.heap.size + 1) 0 0 0 0 0 0 0 0)) := below_set8 HB3.out (by omega) _ _ _ _ _ _ _ _
    clear hER hE hchk hI3
    go_wp2_with fail
    refine bodyPost_ret (v := .tuple #[.slice none 0 0, .agg #[B 0, B 0, B 0, B 0, B 0, B 0, B 0, B 0], .int .i64 ER]) ?_ rfl ⟨_, List.replicate 8 0, rfl, rfl, HB9.out, fun _ => ⟨rfl, rfl⟩, fun e => absurd e HE.out⟩
    have hres : Tryz.f6.results = #[.tmp 4, .cell 5 30, .tmp 6] := by kernel_rfl
    simp only [results, hres]
    go_simp
    rfl
  have HWy : Hid (wayN fx mn mx bt = 0) := hE
  have HP2 : Hid (P = if Wk.world (its l) ≠ 0 then ([], [], Wk.world (its l)) else Wk.plantDir (cutF fx mn mx bt) (its l) 9 [] []) := by show _ = _; rw [HP.out, if_neg (fun q => q hE)]
  rw [hE]
  clear HP hE hI3
  go_wp2_with fail
  refine (hchk w3 HB3.out).mono ?_
  rintro e w4 ⟨rfl, b4⟩
  have HB4 : Hid (Below w.heap.size w w4) := HB3.out.trans (b4.mono HB3.out.size)
  have hI4 : w4.heap[w.heap.size + 1]? = some (.cells Z8 30 (0, 0)) := (b4.block _ (Array.getElem?_eq_some_iff.1 HI3.out).1).trans HI3.out
  have HI4 : Hid (w4.heap[w.heap.size + 1]? = some (.cells Z8 30 (0, 0))) := hI4
  have hY4 : w4.heap[w.heap.size]? = some (.cells #[.int .i64 fx, .int .i64 mn, .int .i64 mx, .int .i64 bt] 25 (0, 0)) := (b4.block _ (Array.getElem?_eq_some_iff.1 HY3.out).1).trans HY3.out
  clear hchk b4
  by_cases hE : Wk.world (its l) = 0
  case neg =>
    have hRe : P = ([], [], Wk.world (its l)) := by rw [HP2.out, if_pos hE]
    obtain ⟨ER, hER⟩ : ∃ ER, Wk.world (its l) = ER := ⟨_, rfl⟩
    rw [hER] at hRe hE ⊢
    clear HP2
    subst hRe
    have hne : (ER != 0) = true := by rw [bne_iff_ne]; exact hE
    have HE : Hid (ER ≠ 0) := hE
    obtain ⟨z0, z1, z2, z3, z4, z5, z6, z7⟩ := I8.cells (b0 := 0) (b1 := 0) (b2 := 0) (b3 := 0) (b4 := 0) (b5 := 0) (b6 := 0) (b7 := 0) (I8.zero hI4)
    obtain ⟨f0, f1, f2, f3, f4, f5, f6, f7⟩ := (I8.zero hI4).free
    have HB9 : Hid (Below w.heap.size w (set8 w4 (w.heap.size + 1) 0 0 0 0 0 0 0 0)) := below_set8 HB4.out (by omega) _ _ _ _ _ _ _ _
    clear hER hE hI4
    go_wp2_with fail
    refine bodyPost_ret (v := .tuple #[.slice none 0 0, .agg #[B 0, B 0, B 0, B 0, B 0, B 0, B 0, B 0], .int .i64 ER]) ?_ rfl ⟨_, List.replicate 8 0, rfl, rfl, HB9.out, fun _ => ⟨rfl, rfl⟩, fun e => absurd e HE.out⟩
    have hres : Tryz.f6.results = #[.tmp 4, .cell 5 30, .tmp 6] := by kernel_rfl
    simp only [results, hres]
    go_simp
    rfl
  have HP3 : Hid (P = Wk.plantDir (cutF fx mn mx bt) (its l) 9 [] []) := by show _ = _; rw [HP2.out, if_neg (fun q => q hE)]
  obtain ⟨hw100, hright⟩ := Wk.world_ok hE
  rw [its_length] at hw100
  have HAll : Hid (dI l 9 [] = l) := dI_all hE
  have hgd : Gd fx mn mx bt l := ⟨hright, HK.out, HWy.out⟩
  have hmk := run_makeMap (P := Tryz.prog) 56 w4
  obtain ⟨base, hbase⟩ : ∃ base, base = w4.heap.size := ⟨_, rfl⟩
  obtain ⟨W6, hW6⟩ : ∃ W6, W6 = (w4.alloc (.map #[] 0)).alloc (.cells #[.int .i64 fx, .int .i64 mn, .int .i64 mx, .int .i64 bt, .slice a LN c, .map (some w4.heap.size), .slice none 0 0] 58) := ⟨_, rfl⟩
  obtain ⟨t1, t2, t3, t4⟩ := two_new w4 (.map #[] 0) (.cells #[.int .i64 fx, .int .i64 mn, .int .i64 mx, .int .i64 bt, .slice a LN c, .map (some w4.heap.size), .slice none 0 0] 58)
  rw [← hW6] at t1 t2 t3 t4
  have hws : w.heap.size ≤ w4.heap.size := HB4.out.size
  have hQ6 : Pq base (w4.heap.size + 1) w4.heap.size fx mn mx bt 0 W6 (dI l 9 [] ++ []) [] := by
    rw [List.append_nil, HAll.out]
    refine ⟨Nat.le_refl _, 0, Nat.le_refl _, ⟨⟨_, _, t2, (HX.out.below HB4.out).below t4, fun a' n c' e hl0 => ?_, World.ownsRow_nil _ _ _ _⟩, ?_, by omega, by omega⟩⟩
    · have := HVb.out a' n c' e hl0
      omega
    · have hm0 := Mp.new w4
      have hb : Below (w4.alloc (.map #[] 0)).heap.size (w4.alloc (.map #[] 0)) W6 := by rw [hW6]; exact (Below.refl _ _).alloc (Nat.le_refl _) _
      exact hm0.below hb
  have hdir := dir_all hgd 9 (by omega) [] [] [] 0 W6 (by simp) (fun _ q => absurd q List.not_mem_nil) (fun _ q => absurd q List.not_mem_nil) (fun _ q => by simp at q) (by rw [HAll.out]; omega) hQ6 (fun W hW => HT.out.below (HB4.out.trans ((t4.mono (Nat.le_refl _)).trans (hW.mono (by omega)) |>.mono hws))) P HP3.out
  rw [HAll.out] at hdir
  have hdir' : Calls Tryz.prog 19 #[.pointer (some ⟨w4.heap.size + 1, 0, none⟩), .string ⟨#[]⟩] W6 fun e w' => ∃ id, e = .returned (.tuple #[idV id, .int .i64 P.2.2]) ∧ id.length = 8 ∧ Pf base W6 w' ∧ (P.2.2 = 0 → id = P.2.1 ∧ ∃ bs', pl bs' = P.1 ∧ Pq base (w4.heap.size + 1) w4.heap.size fx mn mx bt (0 + 300 * l.length + 1) w' [] bs') := hdir
  have HB6 : Hid (Below w.heap.size w W6) := HB4.out.trans (t4.mono hws)
  have HI6 : Hid (W6.heap[w.heap.size + 1]? = some (.cells Z8 30 (0, 0))) := (t4.block _ (Array.getElem?_eq_some_iff.1 HI4.out).1).trans HI4.out
  have HBs : Hid (base = w4.heap.size ∧ l.length ≤ 100 ∧ w.heap.size + 2 ≤ base) := ⟨hbase, hw100, by have := (Array.getElem?_eq_some_iff.1 hI4).1; omega⟩
  obtain ⟨c0, c1, c2, c3⟩ : w4.cell? ⟨w.heap.size, 0, none⟩ = some (.int .i64 fx) ∧ w4.cell? ⟨w.heap.size, 1, none⟩ = some (.int .i64 mn) ∧ w4.cell? ⟨w.heap.size, 2, none⟩ = some (.int .i64 mx) ∧ w4.cell? ⟨w.heap.size, 3, none⟩ = some (.int .i64 bt) := by
    refine ⟨?_, ?_, ?_, ?_⟩ <;> simp [World.cell?, hY4]
  have hy4 : w.heap.size < w4.heap.size := (Array.getElem?_eq_some_iff.1 hY4).1
  rw [hE]
  clear hdir hQ6 t1 t2 t3 t4 hgd HP2 hright hw100 hE hI4 hY4 hbase
  go_upto_region 8 with fail
  rw [← hW6]
  clear hW6 c0 c1 c2 c3 hmk
  go_wp2_with fail
  refine hdir'.mono ?_
  rintro e w7 ⟨id, rfl, hid, f7, hz⟩
  obtain ⟨b0, b1, b2, b3, b4, b5, b6, b7, rfl⟩ := eight id hid
  have eV : idV [b0, b1, b2, b3, b4, b5, b6, b7] = .agg #[.int .u8 (b0.toNat : Int), .int .u8 (b1.toNat : Int), .int .u8 (b2.toNat : Int), .int .u8 (b3.toNat : Int), .int .u8 (b4.toNat : Int), .int .u8 (b5.toNat : Int), .int .u8 (b6.toNat : Int), .int .u8 (b7.toNat : Int)] := rfl
  rw [eV]
  have HZ : Hid (P.2.2 = 0 → [b0, b1, b2, b3, b4, b5, b6, b7] = P.2.1 ∧ ∃ bs', pl bs' = P.1 ∧ Pq base (w4.heap.size + 1) w4.heap.size fx mn mx bt (0 + 300 * l.length + 1) w7 [] bs') := hz
  have hI7 : w7.heap[w.heap.size + 1]? = some (.cells Z8 30 (0, 0)) := f7.cells HI6.out (by decide) (by decide)
  have HB7 : Hid (Below w.heap.size w w7) := HB6.out.trans (f7.low.mono (by have := HBs.out; omega))
  have HI7 : Hid (w7.heap[w.heap.size + 1]? = some (.cells Z8 30 (0, 0))) := hI7
  have hw7 : w.heap.size + 1 < w7.heap.size := (Array.getElem?_eq_some_iff.1 hI7).1
  clear hdir' f7 eV hid
  by_cases hE : P.2.2 = 0
  case neg =>
    obtain ⟨P1, P2, ER⟩ := P
    dsimp only at hE hz ⊢
    have hne : (ER != 0) = true := by rw [bne_iff_ne]; exact hE
    have HE : Hid (ER ≠ 0) := hE
    obtain ⟨z0, z1, z2, z3, z4, z5, z6, z7⟩ := I8.cells (b0 := 0) (b1 := 0) (b2 := 0) (b3 := 0) (b4 := 0) (b5 := 0) (b6 := 0) (b7 := 0) (I8.zero hI7)
    obtain ⟨f0, f1, f2, f3, f4, f5, f6, f7⟩ := (I8.zero hI7).free
    have HB9 : Hid (Below w.heap.size w ((set8 w7 (w.heap.size + 1) 0 0 0 0 0 0 0 0).alloc (.cells #[.int .u8 (b0.toNat : Int), .int .u8 (b1.toNat : Int), .int .u8 (b2.toNat : Int), .int .u8 (b3.toNat : Int), .int .u8 (b4.toNat : Int), .int .u8 (b5.toNat : Int), .int .u8 (b6.toNat : Int), .int .u8 (b7.toNat : Int)] 30))) := by
      have hb := below_set8 HB7.out (Nat.le_succ _) 0 0 0 0 0 0 0 0
      exact hb.alloc hb.size _
    clear hE hz hI7
    go_wp2_with fail
    refine bodyPost_ret (v := .tuple #[.slice none 0 0, .agg #[B 0, B 0, B 0, B 0, B 0, B 0, B 0, B 0], .int .i64 ER]) ?_ rfl ⟨_, List.replicate 8 0, rfl, rfl, HB9.out, fun _ => ⟨rfl, rfl⟩, fun e => absurd e HE.out⟩
    have hres : Tryz.f6.results = #[.tmp 4, .cell 5 30, .tmp 6] := by kernel_rfl
    simp only [results, hres]
    go_simp
    rfl
  obtain ⟨hid, bs', hb1, hb2⟩ := hz hE
  obtain ⟨hq1, nq, hq2, ⟨⟨lv, bv, p1, p2, p3, p4⟩, _, _, _⟩⟩ := hb2
  obtain ⟨d0, d1, d2, d3, d4, d5, d6, dlt⟩ := sev_at p1
  obtain ⟨ba, bc, ebv⟩ := own_form p4
  subst ebv
  obtain ⟨z0, z1, z2, z3, z4, z5, z6, z7⟩ := I8.cells (b0 := 0) (b1 := 0) (b2 := 0) (b3 := 0) (b4 := 0) (b5 := 0) (b6 := 0) (b7 := 0) (I8.zero hI7)
  obtain ⟨f0, f1, f2, f3, f4, f5, f6, f7⟩ := (I8.zero hI7).free
  have HB9 : Hid (Below w.heap.size w (((set8 w7 (w.heap.size + 1) b0 b1 b2 b3 b4 b5 b6 b7).alloc (.cells #[.int .u8 (b0.toNat : Int), .int .u8 (b1.toNat : Int), .int .u8 (b2.toNat : Int), .int .u8 (b3.toNat : Int), .int .u8 (b4.toNat : Int), .int .u8 (b5.toNat : Int), .int .u8 (b6.toNat : Int), .int .u8 (b7.toNat : Int)] 30)).drew)) := by
    have hb := below_set8 HB7.out (Nat.le_succ _) b0 b1 b2 b3 b4 b5 b6 b7
    exact (hb.alloc hb.size _).drew
  have HO9 : Hid ((((set8 w7 (w.heap.size + 1) b0 b1 b2 b3 b4 b5 b6 b7).alloc (.cells #[.int .u8 (b0.toNat : Int), .int .u8 (b1.toNat : Int), .int .u8 (b2.toNat : Int), .int .u8 (b3.toNat : Int), .int .u8 (b4.toNat : Int), .int .u8 (b5.toNat : Int), .int .u8 (b6.toNat : Int), .int .u8 (b7.toNat : Int)] 30)).drew).ownsRow w.heap.size 42 2 (.slice ba bs'.length bc) bs'.length (rowR blC bs')) :=
    ((own_lower (own_kt p4 (I8.kt8 hI7 b0 b1 b2 b3 b4 b5 b6 b7) (by decide)) (by have := HBs.out; omega)).alloc _).drew
  have HFin : Hid (P.2.2 = 0 ∧ pl bs' = P.1 ∧ [b0, b1, b2, b3, b4, b5, b6, b7] = P.2.1 ∧ bs'.length ≤ 1000000) := ⟨hE, hb1, hid, by have := HBs.out; omega⟩
  obtain ⟨BN, hBN⟩ : ∃ BN, BN = bs'.length := ⟨_, rfl⟩
  rw [← hBN] at d6
  rw [hE]
  clear p1 p2 p3 p4 hq1 hq2 hz hI7 hb1 hid
  go_wp2_with fail
  go_region
  all_goals
    go_wp2_with fail
    subst hBN
    refine bodyPost_ret (v := .tuple #[.slice ba bs'.length bc, .agg #[B b0, B b1, B b2, B b3, B b4, B b5, B b6, B b7], .int .i64 0]) ?_ rfl ⟨_, [b0, b1, b2, b3, b4, b5, b6, b7], by rw [HFin.out.1]; rfl, rfl, HB9.out, fun e => absurd HFin.out.1 e, fun _ => ⟨bs', HFin.out.2.1, HFin.out.2.2.1, HO9.out, HFin.out.2.2.2⟩⟩
    have hres : Tryz.f6.results = #[.tmp 4, .cell 5 30, .tmp 6] := by kernel_rfl
    simp only [results, hres]
    go_simp
    exact ⟨rfl, rfl, rfl, rfl, rfl, rfl, rfl, rfl⟩

end Go.Proofs.YtimdioacmojkeabGreatDoor

namespace Go.Proofs.YtimdioacmojkeabGreatDoor
namespace Wk
open Nn (Name)
open Pk (Bl)

/-- a right world whose times a machine has, and a way of cutting that loses nothing -/
structure Good (cutf : Bs → List Bs) (w : List It) : Prop where
  right : Right w
  time : ∀ x ∈ w, -9223372036854775808 ≤ x.time ∧ x.time ≤ 9223372036854775807
  cut : ∀ x ∈ w, x.kind = 1 → (cutf x.bytes).flatten = x.bytes

/-- one item and all beneath it -/
def block (w : List It) (k : Nat) (x : It) : List It := x :: (if x.dir then dfs It.nms It.dir w k x.nms else [])

theorem dfs_succ (w : List It) (k : Nat) (p : List Name) : dfs It.nms It.dir w (k + 1) p = (kids It.nms w p).flatMap (block w k) := rfl

/-- what a planted directory is: nothing is lost, and it is reaped as it was -/
def Back (w : List It) (k : Nat) (p : List Name) (l l1 : List Bl) (id : Bs) : Prop :=
  (∀ x ∈ l, x ∈ l1) ∧ (Fine l → Fine l1) ∧ id.length = 8 ∧ ∀ L, Fine L → (∀ x ∈ l1, x ∈ L) → ∀ acc, acc.length + (dfs It.nms It.dir w k p).length ≤ 100 → reapDir L k id p acc = (acc ++ dfs It.nms It.dir w k p, 0)

theorem getLastD_snoc (p : List Name) (s : Name) : (p ++ [s]).getLastD [] = s := by simp

theorem name_path {x : It} {p : List Name} {s : Name} (hx : iErr x = 0) (e : x.nms = p ++ [s]) : Nn.joinB (p ++ [x.nms.getLastD []]) = x.path := by
  rw [e, getLastD_snoc, ← e]
  exact (path_eq (iErr_ok hx)).symm

theorem thing_back {cutf : Bs → List Bs} {w : List It} (hg : Good cutf w) {k : Nat} (ih : ∀ p l l1 id, plantDir cutf w k p l = (l1, id, 0) → Back w k p l l1 id) {x : It} (hx : x ∈ w) {p : List Name} {s : Name} (e : x.nms = p ++ [s])
    {l l1 : List Bl} {ids : List Bs} (h : thing cutf (plantDir cutf w k) x l = (l1, ids, 0)) :
    (∀ y ∈ l, y ∈ l1) ∧ (Fine l → Fine l1) ∧ Td.Wn (node x ids) ∧ ∀ L, Fine L → (∀ y ∈ l1, y ∈ L) → ∀ acc, acc.length + (block w k x).length ≤ 100 →
      ∃ bytes, (if (node x ids).kind = 1 then reapFile L (node x ids).size (node x ids).parts [] else ((node x ids).link, 0)) = (bytes, 0) ∧ item p (node x ids) bytes = x ∧
        (if (node x ids).kind = 2 then reapDir L k ((node x ids).parts.headD []) (p ++ [(node x ids).name]) (acc ++ [x]) else (acc ++ [x], 0)) = (acc ++ block w k x, 0) := by
  have hxo := hg.right.each x hx
  have ho := iErr_ok hxo
  have ht := hg.time x hx
  have hitem : ∀ bytes, bytes = x.bytes → item p (node x ids) bytes = x := fun bytes hb => by
    subst hb
    show (⟨Nn.joinB (p ++ [x.nms.getLastD []]), x.kind, x.mode, x.time, x.bytes⟩ : It) = x
    rw [name_path hxo e]
  unfold thing at h
  by_cases k1 : x.kind = 1
  · rw [if_pos k1] at h
    obtain ⟨h1, h2, h3, h4⟩ := pieces_ok _ _ _ _ h
    refine ⟨h3, h4, ⟨ht.1, ht.2, fun q hq => ?_⟩, fun L hF hL acc _ => ⟨x.bytes, ?_, hitem _ rfl, ?_⟩⟩
    · have hq : q ∈ ids := hq
      rw [h1] at hq
      obtain ⟨y, _, rfl⟩ := List.mem_map.1 hq
      exact Pk.bid_length _
    · rw [if_pos (show (node x ids).kind = 1 from k1)]
      show reapFile L (if x.kind = 1 then (x.bytes.length : Int) else 0) ids [] = _
      rw [if_pos k1, h1]
      have := reapFile_ok hF (cutf x.bytes) [] x.bytes.length (fun q hq => hL _ (h2 q hq)) (by rw [List.nil_append, hg.cut x hx k1])
      rw [List.nil_append, hg.cut x hx k1] at this
      exact this
    · rw [if_neg (show ¬ (node x ids).kind = 2 from by show ¬ x.kind = 2; omega)]
      unfold block
      rw [if_neg (by unfold It.dir; simp; omega)]
  · rw [if_neg k1] at h
    by_cases k2 : x.kind = 2
    · rw [if_pos k2] at h
      rcases hp : plantDir cutf w k x.nms l with ⟨l2, id, e2⟩
      rw [hp] at h
      obtain rfl : l2 = l1 := congrArg (fun z => z.1) h
      obtain rfl : [id] = ids := congrArg (fun z => z.2.1) h
      obtain rfl : e2 = 0 := congrArg (fun z => z.2.2) h
      obtain ⟨b1, b2, b3, b4⟩ := ih _ _ _ _ hp
      have hdir : x.dir = true := by unfold It.dir; simp [k2]
      refine ⟨b1, b2, ⟨ht.1, ht.2, fun q hq => by rw [List.mem_singleton.1 (show q ∈ [id] from hq)]; exact b3⟩, fun L hF hL acc hacc => ⟨x.bytes, ?_, hitem _ rfl, ?_⟩⟩
      · rw [if_neg (show ¬ (node x [id]).kind = 1 from k1)]
        show ((if x.kind = 3 then x.bytes else []), (0 : Int)) = _
        rw [if_neg (by omega), ho.nodir k2]
      · rw [if_pos (show (node x [id]).kind = 2 from k2)]
        have hn : p ++ [(node x [id]).name] = x.nms := by
          show p ++ [x.nms.getLastD []] = x.nms
          rw [e, getLastD_snoc]
        rw [hn]
        show reapDir L k id x.nms (acc ++ [x]) = _
        unfold block at hacc ⊢
        rw [if_pos hdir] at hacc ⊢
        rw [b4 L hF hL (acc ++ [x]) (by rw [List.length_cons] at hacc; rw [List.length_append, List.length_singleton]; omega), List.append_assoc]
        rfl
    · rw [if_neg k2] at h
      obtain rfl : l = l1 := congrArg (fun z => z.1) h
      obtain rfl : [] = ids := congrArg (fun z => z.2.1) h
      have k3 : x.kind = 3 := by have := ho.kind; omega
      refine ⟨fun _ q => q, fun q => q, ⟨ht.1, ht.2, fun q hq => absurd (show q ∈ ([] : List Bs) from hq) List.not_mem_nil⟩, fun L hF hL acc _ => ⟨x.bytes, ?_, hitem _ rfl, ?_⟩⟩
      · rw [if_neg (show ¬ (node x []).kind = 1 from k1)]
        show ((if x.kind = 3 then x.bytes else []), (0 : Int)) = _
        rw [if_pos k3]
      · rw [if_neg (show ¬ (node x []).kind = 2 from k2)]
        unfold block
        rw [if_neg (by unfold It.dir; simp; omega)]

theorem things_back {cutf : Bs → List Bs} {w : List It} (hg : Good cutf w) {k : Nat} (ih : ∀ p l l1 id, plantDir cutf w k p l = (l1, id, 0) → Back w k p l l1 id) (p : List Name) : ∀ (xs : List It) (l l1 : List Bl) (nodes : List Td.Nd), (∀ x ∈ xs, x ∈ w ∧ ∃ s, x.nms = p ++ [s]) →
    things cutf (plantDir cutf w k) xs l = (l1, nodes, 0) →
    (∀ y ∈ l, y ∈ l1) ∧ (Fine l → Fine l1) ∧ (∀ n ∈ nodes, Td.Wn n) ∧ ∀ L, Fine L → (∀ y ∈ l1, y ∈ L) → ∀ acc, acc.length + (xs.flatMap (block w k)).length ≤ 100 → reapNodes L (reapDir L k) p nodes acc = (acc ++ xs.flatMap (block w k), 0)
  | [], l, l1, nodes, _, h => by
    cases h
    exact ⟨fun _ q => q, fun q => q, fun n hn => absurd hn List.not_mem_nil, fun L _ _ acc _ => by rw [reapNodes, List.flatMap_nil, List.append_nil]⟩
  | x :: xs, l, l1, nodes, hxs, h => by
    rw [things] at h
    rcases ht : thing cutf (plantDir cutf w k) x l with ⟨l2, ids, e1⟩
    rw [ht] at h
    simp only at h
    split at h
    · rename_i q; exact absurd (congrArg (fun z => z.2.2) h) q
    rename_i q
    obtain rfl := Decidable.not_not.mp q
    rcases hr : things cutf (plantDir cutf w k) xs l2 with ⟨l3, ns, e2⟩
    rw [hr] at h
    obtain rfl : l3 = l1 := congrArg (fun z => z.1) h
    obtain rfl : node x ids :: ns = nodes := congrArg (fun z => z.2.1) h
    obtain rfl : e2 = 0 := congrArg (fun z => z.2.2) h
    obtain ⟨hxw, s, es⟩ := hxs x List.mem_cons_self
    obtain ⟨a1, a2, a3, a4⟩ := thing_back hg ih hxw es ht
    obtain ⟨c1, c2, c3, c4⟩ := things_back hg ih p xs l2 l3 ns (fun y hy => hxs y (List.mem_cons_of_mem _ hy)) hr
    refine ⟨fun y hy => c1 y (a1 y hy), fun q => c2 (a2 q), fun n hn => ?_, fun L hF hL acc hacc => ?_⟩
    · rcases List.mem_cons.1 hn with e | hn
      · rw [e]; exact a3
      · exact c3 n hn
    · have hb : 1 ≤ (block w k x).length := by unfold block; rw [List.length_cons]; omega
      rw [List.flatMap_cons, List.length_append] at hacc
      obtain ⟨bytes, f1, f2, f3⟩ := a4 L hF (fun y hy => hL y (c1 y hy)) acc (by omega)
      have h8 : ¬ 8 ≤ p.length := by
        have := errsF_few _ 0 (errs_nms (iErr_ok (hg.right.each x hxw))) (by omega)
        rw [es, List.length_append, List.length_singleton] at this
        omega
      have h100 : ¬ 100 ≤ acc.length := by omega
      rw [reapNodes, if_neg h8, if_neg h100, f1]
      simp only [ne_eq, not_true, if_false, f2]
      rw [f3]
      simp only [not_true, if_false]
      rw [c4 L hF hL (acc ++ block w k x) (by rw [List.length_append]; omega), List.flatMap_cons, List.append_assoc]

/-- what was planted is reaped as it was, out of whatever blobs hold it -/
theorem plant_back {cutf : Bs → List Bs} {w : List It} (hg : Good cutf w) : ∀ (k : Nat) (p : List Name) (l l1 : List Bl) (id : Bs), plantDir cutf w k p l = (l1, id, 0) → Back w k p l l1 id
  | 0, p, l, l1, id, h => by
    rw [plantDir] at h
    exact absurd (congrArg (fun z => z.2.2) h) (by simp)
  | k + 1, p, l, l1, id, h => by
    rw [plantDir] at h
    rcases ht : things cutf (plantDir cutf w k) (kids It.nms w p) l with ⟨l2, nodes, e1⟩
    rw [ht] at h
    simp only at h
    split at h
    · rename_i q; exact absurd (congrArg (fun z => z.2.2) h) q
    rename_i q
    obtain rfl := Decidable.not_not.mp q
    rcases hs : Td.write nodes with ⟨s, e2⟩
    rw [hs] at h
    simp only at h
    split at h
    · rename_i q; exact absurd (congrArg (fun z => z.2.2) h) q
    rename_i q
    obtain rfl := Decidable.not_not.mp q
    obtain ⟨_, rfl, i3, i4, i5, _⟩ := into_ok h
    obtain ⟨c1, c2, c3, c4⟩ := things_back hg (plant_back hg k) p (kids It.nms w p) l l2 nodes (fun x hx => mem_kids.1 hx) ht
    refine ⟨fun x hx => i4 x (c1 x hx), fun q => i5 (c2 q), Pk.bid_length _, fun L hF hL acc hacc => ?_⟩
    rw [dfs_succ] at hacc ⊢
    have hbl : blobOf L (Pk.bid ((2, s) : Bl)) 2 = (s, 0) := blobOf_in hF (hL _ i3)
    rw [reapDir, hbl]
    simp only [ne_eq, not_true, if_false]
    rw [Td.read_write c3 hs]
    simp only [not_true, if_false]
    exact c4 L hF (fun y hy => hL y (i4 y hy)) acc hacc

/-- the whole of P47 and P48: a right world, planted, is reaped out of whatever fine blobs hold its own -/
theorem world_back {cutf : Bs → List Bs} {w : List It} (hw : world w = 0) (ht : ∀ x ∈ w, -9223372036854775808 ≤ x.time ∧ x.time ≤ 9223372036854775807) (hc : ∀ x ∈ w, x.kind = 1 → (cutf x.bytes).flatten = x.bytes)
    {l : List Bl} {id : Bs} (h : plantDir cutf w 9 [] [] = (l, id, 0)) : Fine l ∧ ∀ L, Fine L → (∀ x ∈ l, x ∈ L) → reapDir L 9 id [] [] = (w, 0) := by
  obtain ⟨hl, hr⟩ := world_ok hw
  obtain ⟨_, b2, _, b4⟩ := plant_back ⟨hr, ht, hc⟩ 9 [] [] l id h
  have hd : dfs It.nms It.dir w 9 [] = w := dfs_all hr.sorted hr.closed 9 fun x hx => by
    have := errsF_few _ 0 (errs_nms (iErr_ok (hr.each x hx))) (by omega)
    omega
  refine ⟨b2 ⟨fun _ q => absurd q List.not_mem_nil, fun _ q => absurd q List.not_mem_nil⟩, fun L hF hL => ?_⟩
  have := b4 L hF hL [] (by rw [hd, List.length_nil]; omega)
  rwa [hd, List.nil_append] at this

end Wk

end Go.Proofs.YtimdioacmojkeabGreatDoor

namespace Go.Proofs.YtimdioacmojkeabGreatDoor
namespace Wk
open Nn (Name)
open Pk (Bl)

/-- MERKLE: without a clash two worlds have one root just if they are the same -/
theorem world_root {cutf : Bs → List Bs} {a b : List It} (ha : world a = 0) (hb : world b = 0) (ta : ∀ x ∈ a, -9223372036854775808 ≤ x.time ∧ x.time ≤ 9223372036854775807) (tb : ∀ x ∈ b, -9223372036854775808 ≤ x.time ∧ x.time ≤ 9223372036854775807)
    (hc : ∀ s : Bs, s.length ≤ 4096 → (cutf s).flatten = s) {l m : List Bl} {x y : Bs} (hx : plantDir cutf a 9 [] [] = (l, x, 0)) (hy : plantDir cutf b 9 [] [] = (m, y, 0)) (hF : Fine (l ++ m)) : x = y ↔ a = b := by
  have cut : ∀ {w : List It}, world w = 0 → ∀ z ∈ w, z.kind = 1 → (cutf z.bytes).flatten = z.bytes := fun hw z hz hk => hc _ ((iErr_ok ((world_ok hw).2.each z hz)).file hk)
  constructor
  · rintro rfl
    have h1 := (world_back ha ta (cut ha) hx).2 (l ++ m) hF (fun z hz => List.mem_append_left _ hz)
    have h2 := (world_back hb tb (cut hb) hy).2 (l ++ m) hF (fun z hz => List.mem_append_right _ hz)
    exact (congrArg Prod.fst (h1.symm.trans h2))
  · rintro rfl
    rw [hx] at hy
    exact congrArg (fun z => z.2.1) hy

/-- the IDs of an item's parts -/
def idsOf (cutf : Bs → List Bs) (sub : List Name → Bs) (x : It) : List Bs :=
  if x.kind = 1 then (cutf x.bytes).map (fun p => Pk.bid (1, p)) else if x.kind = 2 then [Pk.bid (2, sub x.nms)] else []

/-- a directory's text -/
def tx (cutf : Bs → List Bs) (w : List It) : Nat → List Name → Bs
  | 0, _ => []
  | k + 1, p => Td.textB ((kids It.nms w p).map fun x => node x (idsOf cutf (tx cutf w k) x))

/-- the blobs that an item makes, in order -/
def blobsIn (cutf : Bs → List Bs) (sub : List Name → List Bl) (x : It) : List Bl :=
  if x.kind = 1 then (cutf x.bytes).map (fun p => ((1, p) : Bl)) else if x.kind = 2 then sub x.nms else []

/-- the blobs of a directory, in order, the directory's own the last -/
def blobsOf (cutf : Bs → List Bs) (w : List It) : Nat → List Name → List Bl
  | 0, _ => []
  | k + 1, p => (kids It.nms w p).flatMap (blobsIn cutf (blobsOf cutf w k)) ++ [((2, tx cutf w (k + 1) p) : Bl)]

/-- told, each once -/
def tell (l : List Bl) (bs : List Bl) : List Bl := bs.foldl (fun l b => if b ∈ l then l else l ++ [b]) l

theorem tell_nil (l : List Bl) : tell l [] = l := rfl

theorem tell_cons (l : List Bl) (b : Bl) (bs : List Bl) : tell l (b :: bs) = tell (if b ∈ l then l else l ++ [b]) bs := rfl

theorem tell_app (l bs cs : List Bl) : tell l (bs ++ cs) = tell (tell l bs) cs := by unfold tell; rw [List.foldl_append]

theorem mem_tell : ∀ (bs l : List Bl) (b : Bl), b ∈ tell l bs ↔ b ∈ l ∨ b ∈ bs
  | [], l, b => by simp [tell_nil]
  | c :: bs, l, b => by
    rw [tell_cons, mem_tell bs _ b]
    split
    · rename_i h
      constructor
      · rintro (q | q)
        · exact .inl q
        · exact .inr (List.mem_cons_of_mem _ q)
      · rintro (q | q)
        · exact .inl q
        · rcases List.mem_cons.1 q with rfl | q
          · exact .inl h
          · exact .inr q
    · rw [List.mem_append, List.mem_singleton, List.mem_cons, or_assoc]

theorem tell_nodup : ∀ (bs l : List Bl), l.Nodup → (tell l bs).Nodup
  | [], _, h => h
  | c :: bs, l, h => by
    rw [tell_cons]
    split
    · exact tell_nodup bs l h
    · rename_i q
      refine tell_nodup bs _ (List.nodup_append.2 ⟨h, by simp, fun a ha b hb e => ?_⟩)
      rw [List.mem_singleton.1 hb] at e
      subst e
      exact q ha

theorem into_tell {l l' : List Bl} {b : Bl} {id : Bs} (h : into l b = (l', id, 0)) : l' = if b ∈ l then l else l ++ [b] := by
  unfold into at h
  split at h
  · rename_i q; exact absurd (congrArg (fun z => z.2.2) h) q
  cases hf : l.find? (fun x => Pk.bid x == Pk.bid b) with
  | none =>
    rw [hf] at h
    have hb : b ∉ l := fun hb => by
      have := List.find?_eq_none.1 hf b hb
      simp at this
    rw [if_neg hb]
    exact (congrArg (fun z => z.1) h).symm
  | some x =>
    rw [hf] at h
    simp only at h
    split at h
    · rename_i e
      subst e
      rw [if_pos (List.mem_of_find?_eq_some hf)]
      exact (congrArg (fun z => z.1) h).symm
    · exact absurd (congrArg (fun z => z.2.2) h) (by simp)

theorem pieces_tell : ∀ (ps : List Bs) (l l' : List Bl) (ids : List Bs), pieces ps l = (l', ids, 0) → l' = tell l (ps.map fun p => ((1, p) : Bl))
  | [], l, l', ids, h => (congrArg (fun z => z.1) h).symm
  | p :: ps, l, l', ids, h => by
    rw [pieces] at h
    rcases hi : into l (1, p) with ⟨l1, id, e⟩
    rw [hi] at h
    simp only at h
    split at h
    · rename_i q; exact absurd (congrArg (fun z => z.2.2) h) q
    rename_i q
    obtain rfl := Decidable.not_not.mp q
    rcases hp : pieces ps l1 with ⟨l2, ids2, e2⟩
    rw [hp] at h
    obtain rfl : l2 = l' := congrArg (fun z => z.1) h
    obtain rfl : e2 = 0 := congrArg (fun z => z.2.2) h
    rw [List.map_cons, tell_cons, ← into_tell hi]
    exact pieces_tell ps l1 l2 ids2 hp

theorem write_text {x : List Td.Nd} {s : Bs} (h : Td.write x = (s, 0)) : s = Td.textB x ∧ Td.check x = 0 := by
  unfold Td.write at h
  split at h
  · rename_i q; exact absurd (congrArg (fun z => z.2) h) q
  rename_i q
  split at h
  · exact absurd (congrArg (fun z => z.2) h) (by simp)
  · exact ⟨(congrArg (fun z => z.1) h).symm, Decidable.not_not.mp q⟩

theorem things_pure {cutf : Bs → List Bs} {w : List It} {k : Nat} (ih : ∀ p l l1 id, plantDir cutf w k p l = (l1, id, 0) → id = Pk.bid (2, tx cutf w k p) ∧ l1 = tell l (blobsOf cutf w k p)) : ∀ (xs : List It) (l l1 : List Bl) (nodes : List Td.Nd),
    things cutf (plantDir cutf w k) xs l = (l1, nodes, 0) → nodes = (xs.map fun x => node x (idsOf cutf (tx cutf w k) x)) ∧ l1 = tell l (xs.flatMap (blobsIn cutf (blobsOf cutf w k)))
  | [], l, l1, nodes, h => by
    cases h
    exact ⟨rfl, rfl⟩
  | x :: xs, l, l1, nodes, h => by
    rw [things] at h
    rcases ht : thing cutf (plantDir cutf w k) x l with ⟨l2, ids, e1⟩
    rw [ht] at h
    simp only at h
    split at h
    · rename_i q; exact absurd (congrArg (fun z => z.2.2) h) q
    rename_i q
    obtain rfl := Decidable.not_not.mp q
    rcases hr : things cutf (plantDir cutf w k) xs l2 with ⟨l3, ns, e2⟩
    rw [hr] at h
    obtain rfl : l3 = l1 := congrArg (fun z => z.1) h
    obtain rfl : node x ids :: ns = nodes := congrArg (fun z => z.2.1) h
    obtain rfl : e2 = 0 := congrArg (fun z => z.2.2) h
    obtain ⟨r1, r2⟩ := things_pure ih xs l2 l3 ns hr
    have hx : ids = idsOf cutf (tx cutf w k) x ∧ l2 = tell l (blobsIn cutf (blobsOf cutf w k) x) := by
      unfold thing at ht
      unfold idsOf blobsIn
      by_cases k1 : x.kind = 1
      · rw [if_pos k1] at ht ⊢
        rw [if_pos k1]
        exact ⟨(pieces_ok _ _ _ _ ht).1, pieces_tell _ _ _ _ ht⟩
      · rw [if_neg k1] at ht ⊢
        rw [if_neg k1]
        by_cases k2 : x.kind = 2
        · rw [if_pos k2] at ht ⊢
          rw [if_pos k2]
          rcases hp : plantDir cutf w k x.nms l with ⟨l4, id, e3⟩
          rw [hp] at ht
          obtain rfl : l4 = l2 := congrArg (fun z => z.1) ht
          obtain rfl : [id] = ids := congrArg (fun z => z.2.1) ht
          obtain rfl : e3 = 0 := congrArg (fun z => z.2.2) ht
          obtain ⟨i1, i2⟩ := ih _ _ _ _ hp
          exact ⟨by rw [i1], i2⟩
        · rw [if_neg k2] at ht ⊢
          rw [if_neg k2]
          exact ⟨(congrArg (fun z => z.2.1) ht).symm, (congrArg (fun z => z.1) ht).symm⟩
    refine ⟨by rw [r1, hx.1]; rfl, ?_⟩
    rw [r2, hx.2, List.flatMap_cons, tell_app]

/-- what Plant tells: each blob of the directory once, in order; the ID is that of its text -/
theorem plant_pure (cutf : Bs → List Bs) (w : List It) : ∀ (k : Nat) (p : List Name) (l l1 : List Bl) (id : Bs), plantDir cutf w k p l = (l1, id, 0) → id = Pk.bid (2, tx cutf w k p) ∧ l1 = tell l (blobsOf cutf w k p)
  | 0, p, l, l1, id, h => by
    rw [plantDir] at h
    exact absurd (congrArg (fun z => z.2.2) h) (by simp)
  | k + 1, p, l, l1, id, h => by
    rw [plantDir] at h
    rcases ht : things cutf (plantDir cutf w k) (kids It.nms w p) l with ⟨l2, nodes, e1⟩
    rw [ht] at h
    simp only at h
    split at h
    · rename_i q; exact absurd (congrArg (fun z => z.2.2) h) q
    rename_i q
    obtain rfl := Decidable.not_not.mp q
    rcases hs : Td.write nodes with ⟨s, e2⟩
    rw [hs] at h
    simp only at h
    split at h
    · rename_i q; exact absurd (congrArg (fun z => z.2.2) h) q
    rename_i q
    obtain rfl := Decidable.not_not.mp q
    obtain ⟨_, i2, _⟩ := into_ok h
    have i1 := into_tell h
    obtain ⟨r1, r2⟩ := things_pure (plant_pure cutf w k) (kids It.nms w p) l l2 nodes ht
    have hst : s = tx cutf w (k + 1) p := by rw [(write_text hs).1, r1]; rfl
    refine ⟨by rw [i2, hst], ?_⟩
    rw [blobsOf, tell_app, ← r2, i1, ← hst]
    rfl

end Wk

end Go.Proofs.YtimdioacmojkeabGreatDoor

namespace Go.Proofs.YtimdioacmojkeabGreatDoor
namespace Wk
open Nn (Name)
open Pk (Bl)

theorem nodup_le {α : Type} [DecidableEq α] : ∀ {a b : List α}, a.Nodup → (∀ x ∈ a, x ∈ b) → a.length ≤ b.length
  | [], _, _, _ => Nat.zero_le _
  | x :: a, b, h, hs => by
    obtain ⟨h1, h2⟩ := List.nodup_cons.1 h
    have hx : x ∈ b := hs x List.mem_cons_self
    have := nodup_le (a := a) (b := b.erase x) h2 fun y hy => by
      have hne : y ≠ x := fun e => h1 (e ▸ hy)
      exact (List.mem_erase_of_ne hne).2 (hs y (List.mem_cons_of_mem _ hy))
    rw [List.length_erase_of_mem hx] at this
    have : 0 < b.length := List.length_pos_of_mem hx
    rw [List.length_cons]
    omega

theorem map_same {α : Type} {f : α → α} : ∀ (l : List α), (∀ y ∈ l, f y = y) → l.map f = l
  | [], _ => rfl
  | y :: l, h => by rw [List.map_cons, h y List.mem_cons_self, map_same l fun z hz => h z (List.mem_cons_of_mem _ hz)]

/-- an item with other bytes, if it is the one -/
def chg (q : List Name) (s : Bs) (y : It) : It := if y.nms = q then ⟨y.path, y.kind, y.mode, y.time, s⟩ else y

theorem chg_nms (q : List Name) (s : Bs) (y : It) : (chg q s y).nms = y.nms := by unfold chg; split <;> rfl

theorem chg_kind (q : List Name) (s : Bs) (y : It) : (chg q s y).kind = y.kind := by unfold chg; split <;> rfl

theorem chg_other {q : List Name} {s : Bs} {y : It} (h : y.nms ≠ q) : chg q s y = y := by unfold chg; rw [if_neg h]

theorem kids_chg (w : List It) (q p : List Name) (s : Bs) : kids It.nms (w.map (chg q s)) p = (kids It.nms w p).map (chg q s) := by
  unfold kids
  rw [List.filter_map]
  congr 1
  refine List.filter_congr fun y _ => ?_
  simp only [Function.comp_apply, chg_nms]

section
variable {cutf : Bs → List Bs} {w : List It} {q : List Name} {s : Bs}
/-- a directory in which it does not lie is as it was -/
theorem same_dir (k : Nat) : ∀ (p : List Name), (¬ ∃ r, r ≠ [] ∧ q = p ++ r) → tx cutf (w.map (chg q s)) k p = tx cutf w k p ∧ blobsOf cutf (w.map (chg q s)) k p = blobsOf cutf w k p := by
  induction k with
  | zero =>
    intro p _
    exact ⟨by rw [tx, tx], by rw [blobsOf, blobsOf]⟩
  | succ k ihk =>
    intro p hp
    have hk : ∀ y ∈ kids It.nms w p, chg q s y = y ∧ ¬ ∃ r, r ≠ [] ∧ q = y.nms ++ r := fun y hy => by
      obtain ⟨_, t, e⟩ := mem_kids.1 hy
      refine ⟨chg_other fun h => hp ⟨[t], by simp, by rw [← h, e]⟩, fun ⟨r, _, er⟩ => hp ⟨t :: r, by simp, by rw [er, e, List.append_assoc]; rfl⟩⟩
    have hkids : kids It.nms (w.map (chg q s)) p = kids It.nms w p := by
      rw [kids_chg]
      exact map_same _ fun y hy => (hk y hy).1
    have htx : tx cutf (w.map (chg q s)) (k + 1) p = tx cutf w (k + 1) p := by
      have hm : ((kids It.nms w p).map fun x => node x (idsOf cutf (tx cutf (w.map (chg q s)) k) x)) = (kids It.nms w p).map fun x => node x (idsOf cutf (tx cutf w k) x) := List.map_congr_left fun y hy => by
        have hi : idsOf cutf (tx cutf (w.map (chg q s)) k) y = idsOf cutf (tx cutf w k) y := by
          unfold idsOf
          rw [(ihk y.nms (hk y hy).2).1]
        rw [hi]
      rw [tx, tx, hkids, hm]
    refine ⟨htx, ?_⟩
    have : ∀ l : List It, (∀ y ∈ l, y ∈ kids It.nms w p) → l.flatMap (blobsIn cutf (blobsOf cutf (w.map (chg q s)) k)) = l.flatMap (blobsIn cutf (blobsOf cutf w k)) := fun l hl => by
      induction l with
      | nil => rw [List.flatMap_nil, List.flatMap_nil]
      | cons y l ih =>
        have hi : blobsIn cutf (blobsOf cutf (w.map (chg q s)) k) y = blobsIn cutf (blobsOf cutf w k) y := by
          unfold blobsIn
          rw [(ihk y.nms (hk y (hl y List.mem_cons_self)).2).2]
        rw [List.flatMap_cons, List.flatMap_cons, ih fun z hz => hl z (List.mem_cons_of_mem _ hz), hi]
    rw [blobsOf, blobsOf, hkids, htx, this _ fun _ h => h]

/-- the directories on the way -/
def wayT (cutf : Bs → List Bs) (v : List It) : Nat → List Name → List Name → List Bl
  | _, _, [] => []
  | k, p, t :: r => ((2, tx cutf v k p) : Bl) :: wayT cutf v (k - 1) (p ++ [t]) r

theorem wayT_length (v : List It) : ∀ (r : List Name) (k : Nat) (p : List Name), (wayT cutf v k p r).length = r.length
  | [], _, _ => rfl
  | t :: r, k, p => by rw [wayT, List.length_cons, wayT_length v r, List.length_cons]

/-- what is new lies on the way, or is a piece of it -/
theorem new_blobs (hq : ∀ y ∈ w, y.nms = q → y.kind = 1) : ∀ (k : Nat) (p r : List Name), r ≠ [] → q = p ++ r → ∀ b ∈ blobsOf cutf (w.map (chg q s)) k p,
    b ∈ blobsOf cutf w k p ∨ b ∈ (cutf s).map (fun x => ((1, x) : Bl)) ∨ b ∈ wayT cutf (w.map (chg q s)) k p r
  | 0, _, _, _, _, b, hb => absurd hb List.not_mem_nil
  | k + 1, p, [], hr, _, b, hb => absurd rfl hr
  | k + 1, p, t :: r, _, hp, b, hb => by
    rw [blobsOf] at hb
    rcases List.mem_append.1 hb with hb | hb
    · rw [kids_chg, List.mem_flatMap] at hb
      obtain ⟨z, hz, hb⟩ := hb
      obtain ⟨y, hy, rfl⟩ := List.mem_map.1 hz
      obtain ⟨hyw, t', et⟩ := mem_kids.1 hy
      have inw : b ∈ blobsIn cutf (blobsOf cutf w k) y → b ∈ blobsOf cutf w (k + 1) p := fun h => by
        rw [blobsOf]
        exact List.mem_append_left _ (List.mem_flatMap.2 ⟨y, hy, h⟩)
      by_cases hyq : y.nms = q
      · have k1 := hq y hyw hyq
        unfold blobsIn at hb
        rw [if_pos (by rw [chg_kind]; exact k1)] at hb
        have : (chg q s y).bytes = s := by unfold chg; rw [if_pos hyq]
        rw [this] at hb
        exact .inr (.inl hb)
      · rw [chg_other hyq] at hb
        unfold blobsIn at hb inw
        by_cases k1 : y.kind = 1
        · rw [if_pos k1] at hb inw
          exact .inl (inw hb)
        · rw [if_neg k1] at hb inw
          by_cases k2 : y.kind = 2
          · rw [if_pos k2] at hb inw
            by_cases hbn : ∃ r', r' ≠ [] ∧ q = y.nms ++ r'
            · obtain ⟨r', hr', er'⟩ := hbn
              have e2 : t' :: r' = t :: r := by
                rw [er', et, List.append_assoc] at hp
                exact List.append_cancel_left hp
              obtain ⟨rfl, rfl⟩ := List.cons.inj e2
              rcases new_blobs hq k y.nms r' hr' er' b hb with h | h | h
              · exact .inl (inw h)
              · exact .inr (.inl h)
              · refine .inr (.inr ?_)
                rw [wayT, Nat.add_sub_cancel]
                rw [et] at h
                exact List.mem_cons_of_mem _ h
            · rw [(same_dir k y.nms hbn).2] at hb
              exact .inl (inw hb)
          · rw [if_neg k2] at hb
            exact absurd hb List.not_mem_nil
    · refine .inr (.inr ?_)
      rw [List.mem_singleton.1 hb, wayT]
      exact List.mem_cons_self

/-- P47: how much is new -/
theorem new_few (hq : ∀ y ∈ w, y.nms = q → y.kind = 1) (hne : q ≠ []) {l m : List Bl} {x y : Bs} (hl : plantDir cutf w 9 [] [] = (l, x, 0)) (hm : plantDir cutf (w.map (chg q s)) 9 [] [] = (m, y, 0)) :
    ((m.filter fun b => decide (b ∉ l)).filter fun b => decide (b.1 = 2)).length ≤ q.length ∧ ((m.filter fun b => decide (b ∉ l)).filter fun b => decide (b.1 ≠ 2)).length ≤ (cutf s).length := by
  have el := (plant_pure cutf w 9 [] [] l x hl).2
  have em := (plant_pure cutf _ 9 [] [] m y hm).2
  have hnd : m.Nodup := by rw [em]; exact tell_nodup _ [] List.nodup_nil
  have key : ∀ b ∈ m, b ∉ l → b ∈ (cutf s).map (fun x => ((1, x) : Bl)) ∨ b ∈ wayT cutf (w.map (chg q s)) 9 [] q := fun b hb hn => by
    have hb : b ∈ blobsOf cutf (w.map (chg q s)) 9 [] := by
      rw [em, mem_tell] at hb
      exact hb.resolve_left List.not_mem_nil
    rcases new_blobs hq 9 [] q hne rfl b hb with h | h
    · exact absurd (by rw [el, mem_tell]; exact .inr h) hn
    · exact h
  have hw2 : ∀ (r : List Name) (k : Nat) (p : List Name), ∀ b ∈ wayT cutf (w.map (chg q s)) k p r, b.1 = 2 := fun r => by
    induction r with
    | nil => exact fun _ _ b hb => absurd hb List.not_mem_nil
    | cons t r ih =>
      intro k p b hb
      rw [wayT] at hb
      rcases List.mem_cons.1 hb with rfl | hb
      · rfl
      · exact ih _ _ b hb
  refine ⟨?_, ?_⟩
  · rw [← wayT_length (cutf := cutf) (w.map (chg q s)) q 9 []]
    refine nodup_le ((hnd.filter _).filter _) fun b hb => ?_
    obtain ⟨hb, h2⟩ := List.mem_filter.1 hb
    obtain ⟨hb, h1⟩ := List.mem_filter.1 hb
    rcases key b hb (of_decide_eq_true h1) with h | h
    · obtain ⟨z, _, rfl⟩ := List.mem_map.1 h
      have := of_decide_eq_true h2
      simp at this
    · exact h
  · rw [← List.length_map (f := fun x => ((1, x) : Bl))]
    refine nodup_le ((hnd.filter _).filter _) fun b hb => ?_
    obtain ⟨hb, h2⟩ := List.mem_filter.1 hb
    obtain ⟨hb, h1⟩ := List.mem_filter.1 hb
    rcases key b hb (of_decide_eq_true h1) with h | h
    · exact h
    · exact absurd (hw2 _ _ _ b h) (of_decide_eq_true h2)

end

end Wk

end Go.Proofs.YtimdioacmojkeabGreatDoor

namespace Go.Proofs.YtimdioacmojkeabGreatDoor
namespace Wk
open Nn (Name)
open Pk (Bl)

theorem tell_snoc (l bs : List Bl) (c : Bl) : tell l (bs ++ [c]) = if c ∈ tell l bs then tell l bs else tell l bs ++ [c] := by rw [tell_app]; rfl

/-- where a blob stands that is told: what came ahead of it was told ahead of it -/
theorem tell_first : ∀ (n : Nat) (bs : List Bl), bs.length = n → ∀ (i : Nat) (b : Bl), (tell [] bs)[i]? = some b → ∃ pre post, bs = pre ++ b :: post ∧ (tell [] bs).take i = tell [] pre := by
  intro n
  induction n with
  | zero =>
    intro bs h i b hb
    rw [List.length_eq_zero_iff.1 h] at hb
    simp [tell_nil] at hb
  | succ n ih =>
    intro bs h i b hb
    have hne : bs ≠ [] := fun e => by rw [e] at h; cases h
    obtain ⟨bs', c, rfl⟩ : ∃ bs' c, bs = bs' ++ [c] := ⟨bs.dropLast, bs.getLast hne, (List.dropLast_concat_getLast hne).symm⟩
    rw [List.length_append, List.length_singleton] at h
    rw [tell_snoc] at hb ⊢
    by_cases hc : c ∈ tell [] bs'
    · rw [if_pos hc] at hb ⊢
      obtain ⟨pre, post, e1, e2⟩ := ih bs' (by omega) i b hb
      exact ⟨pre, post ++ [c], by rw [e1, List.append_assoc]; rfl, e2⟩
    · rw [if_neg hc] at hb ⊢
      rcases Nat.lt_or_ge i (tell [] bs').length with hi | hi
      · rw [List.getElem?_append_left hi] at hb
        obtain ⟨pre, post, e1, e2⟩ := ih bs' (by omega) i b hb
        exact ⟨pre, post ++ [c], by rw [e1, List.append_assoc]; rfl, by rw [List.take_append_of_le_length (by omega)]; exact e2⟩
      · rw [List.getElem?_append_right hi] at hb
        have hi0 : i - (tell [] bs').length = 0 := by
          have := (List.getElem?_eq_some_iff.1 hb).1
          simpa using this
        rw [hi0] at hb
        obtain rfl : c = b := by simpa using hb
        obtain rfl : i = (tell [] bs').length := by omega
        exact ⟨bs', [], rfl, by rw [List.take_append_of_le_length (Nat.le_refl _), List.take_length]⟩

theorem fine_ids {l : List Bl} (hF : Fine l) (hn : l.Nodup) : (l.map Pk.bid).Nodup := by
  induction l with
  | nil => simp
  | cons b l ih =>
    obtain ⟨h1, h2⟩ := List.nodup_cons.1 hn
    rw [List.map_cons, List.nodup_cons]
    refine ⟨fun hm => ?_, ih ⟨fun x hx => hF.ok x (List.mem_cons_of_mem _ hx), fun x hx y hy => hF.one x (List.mem_cons_of_mem _ hx) y (List.mem_cons_of_mem _ hy)⟩ h2⟩
    obtain ⟨y, hy, e⟩ := List.mem_map.1 hm
    have := hF.one y (List.mem_cons_of_mem _ hy) b List.mem_cons_self e
    subst this
    exact h1 hy

/-- a directory's nodes -/
def nodesOf (cutf : Bs → List Bs) (w : List It) (k : Nat) (p : List Name) : List Td.Nd := (kids It.nms w p).map fun x => node x (idsOf cutf (tx cutf w k) x)

theorem tx_succ (cutf : Bs → List Bs) (w : List It) (k : Nat) (p : List Name) : tx cutf w (k + 1) p = Td.textB (nodesOf cutf w k p) := rfl

/-- a tree blob that is read as nodes whose parts are told ahead -/
def Told (ahead : List Bl) (b : Bl) : Prop := b.1 = 2 → ∃ nodes, Td.read b.2 = (nodes, 0) ∧ ∀ n ∈ nodes, ∀ id ∈ n.parts, ∃ c ∈ ahead, Pk.bid c = id

/-- each is told ahead of who needs it -/
def Ord (bs : List Bl) : Prop := ∀ pre b post, bs = pre ++ b :: post → Told pre b

theorem Told.more {a a' : List Bl} {b : Bl} (h : Told a b) (hs : ∀ x ∈ a, x ∈ a') : Told a' b := fun h2 => by
  obtain ⟨n, e, k⟩ := h h2
  exact ⟨n, e, fun m hm id hid => by
    obtain ⟨c, hc, e⟩ := k m hm id hid
    exact ⟨c, hs c hc, e⟩⟩

theorem Ord.nil : Ord [] := fun pre b post h => by
  have := congrArg List.length h
  simp at this

theorem Ord.append {a b : List Bl} (ha : Ord a) (hb : Ord b) : Ord (a ++ b) := fun pre c post h => by
  rcases List.append_eq_append_iff.1 h with ⟨m, h1, h2⟩ | ⟨m, h1, h2⟩
  · exact (hb m c post h2).more fun x hx => by rw [h1]; exact List.mem_append_right _ hx
  · cases m with
    | nil =>
      rw [List.append_nil] at h1
      exact (hb [] c post h2.symm).more fun x hx => absurd hx List.not_mem_nil
    | cons d m =>
      obtain ⟨rfl, h3⟩ := List.cons.inj h2
      exact ha pre c m h1

theorem Ord.flat {α : Type} {f : α → List Bl} : ∀ (l : List α), (∀ x ∈ l, Ord (f x)) → Ord (l.flatMap f)
  | [], _ => by rw [List.flatMap_nil]; exact Ord.nil
  | x :: l, h => by
    rw [List.flatMap_cons]
    exact (h x List.mem_cons_self).append (Ord.flat l fun y hy => h y (List.mem_cons_of_mem _ hy))

theorem Ord.pieces (ps : List Bs) : Ord (ps.map fun p => ((1, p) : Bl)) := fun pre b post h h2 => by
  have : b ∈ ps.map fun p => ((1, p) : Bl) := by rw [h]; simp
  obtain ⟨p, _, rfl⟩ := List.mem_map.1 this
  cases h2

theorem Ord.snoc {a : List Bl} {b : Bl} (ha : Ord a) (hb : Told a b) : Ord (a ++ [b]) := fun pre c post h => by
  rcases List.append_eq_append_iff.1 h with ⟨m, h1, h2⟩ | ⟨m, h1, h2⟩
  · cases m with
    | nil =>
      obtain ⟨rfl, _⟩ := List.cons.inj h2
      rw [h1, List.append_nil]
      exact hb
    | cons d m =>
      have := congrArg List.length h2
      simp at this
  · cases m with
    | nil =>
      rw [List.append_nil] at h1
      obtain ⟨rfl, _⟩ := List.cons.inj h2
      rw [← h1]
      exact hb
    | cons d m =>
      obtain ⟨rfl, h3⟩ := List.cons.inj h2
      exact ha pre c m h1

theorem own_in {cutf : Bs → List Bs} {w : List It} {p : List Name} (k : Nat) (h : k ≠ 0) : ((2, tx cutf w k p) : Bl) ∈ blobsOf cutf w k p := by
  cases k with
  | zero => exact absurd rfl h
  | succ k => rw [blobsOf]; exact List.mem_append_right _ (by simp)

/-- a directory that could be planted: it and all beneath it are read as they were written -/
theorem plant_ord {cutf : Bs → List Bs} {w : List It} (hg : Good cutf w) : ∀ (k : Nat) (p : List Name) (l l1 : List Bl) (id : Bs), plantDir cutf w k p l = (l1, id, 0) → Ord (blobsOf cutf w k p) := by
  intro k
  induction k with
  | zero =>
    intro p l l1 id h
    rw [plantDir] at h
    exact absurd (congrArg (fun z => z.2.2) h) (by simp)
  | succ k ih =>
    intro p l l1 id h
    rw [plantDir] at h
    rcases ht : things cutf (plantDir cutf w k) (kids It.nms w p) l with ⟨l2, nodes, e1⟩
    rw [ht] at h
    simp only at h
    split at h
    · rename_i q; exact absurd (congrArg (fun z => z.2.2) h) q
    rename_i q
    obtain rfl := Decidable.not_not.mp q
    rcases hs : Td.write nodes with ⟨s, e2⟩
    rw [hs] at h
    simp only at h
    split at h
    · rename_i q; exact absurd (congrArg (fun z => z.2.2) h) q
    rename_i q
    obtain rfl := Decidable.not_not.mp q
    obtain ⟨r1, _⟩ := things_pure (plant_pure cutf w k) (kids It.nms w p) l l2 nodes ht
    obtain ⟨_, _, c3, _⟩ := things_back hg (plant_back hg k) p (kids It.nms w p) l l2 nodes (fun x hx => mem_kids.1 hx) ht
    have hst : s = tx cutf w (k + 1) p := by rw [(write_text hs).1, r1]; rfl
    have hread : Td.read (tx cutf w (k + 1) p) = (nodes, 0) := by rw [← hst]; exact Td.read_write c3 hs
    -- every directory in it was planted
    have sub : ∀ (xs : List It) (l l1 : List Bl) (nodes : List Td.Nd), things cutf (plantDir cutf w k) xs l = (l1, nodes, 0) → ∀ x ∈ xs, x.kind = 2 → Ord (blobsOf cutf w k x.nms) ∧ k ≠ 0 := by
      intro xs
      induction xs with
      | nil => exact fun _ _ _ _ x hx => absurd hx List.not_mem_nil
      | cons y xs ihx =>
        intro l l1 nodes h x hx k2
        rw [things] at h
        rcases hty : thing cutf (plantDir cutf w k) y l with ⟨l2, ids, e1⟩
        rw [hty] at h
        simp only at h
        split at h
        · rename_i q; exact absurd (congrArg (fun z => z.2.2) h) q
        rename_i q
        obtain rfl := Decidable.not_not.mp q
        rcases hr : things cutf (plantDir cutf w k) xs l2 with ⟨l3, ns, e2⟩
        rw [hr] at h
        obtain rfl : e2 = 0 := congrArg (fun z => z.2.2) h
        rcases List.mem_cons.1 hx with rfl | hx
        · unfold thing at hty
          rw [if_neg (by omega), if_pos k2] at hty
          rcases hp : plantDir cutf w k x.nms l with ⟨l4, id, e3⟩
          rw [hp] at hty
          obtain rfl : e3 = 0 := congrArg (fun z => z.2.2) hty
          refine ⟨ih _ _ _ _ hp, fun e => ?_⟩
          subst e
          rw [plantDir] at hp
          exact absurd (congrArg (fun z => z.2.2) hp) (by simp)
        · exact ihx l2 l3 ns hr x hx k2
    rw [blobsOf]
    refine Ord.snoc (Ord.flat _ fun x hx => ?_) ?_
    · unfold blobsIn
      split
      · exact Ord.pieces _
      · split
        · rename_i k2
          exact (sub _ _ _ _ ht x hx k2).1
        · exact Ord.nil
    · intro _
      refine ⟨nodes, hread, fun n hn id hid => ?_⟩
      rw [r1] at hn
      obtain ⟨x, hx, rfl⟩ := List.mem_map.1 hn
      have hid : id ∈ idsOf cutf (tx cutf w k) x := hid
      unfold idsOf at hid
      by_cases k1 : x.kind = 1
      · rw [if_pos k1] at hid
        obtain ⟨q, hq, rfl⟩ := List.mem_map.1 hid
        refine ⟨(1, q), List.mem_flatMap.2 ⟨x, hx, ?_⟩, rfl⟩
        unfold blobsIn
        rw [if_pos k1]
        exact List.mem_map_of_mem hq
      · rw [if_neg k1] at hid
        by_cases k2 : x.kind = 2
        · rw [if_pos k2] at hid
          rw [List.mem_singleton.1 hid]
          refine ⟨(2, tx cutf w k x.nms), List.mem_flatMap.2 ⟨x, hx, ?_⟩, rfl⟩
          unfold blobsIn
          rw [if_neg k1, if_pos k2]
          exact own_in k (sub _ _ _ _ ht x hx k2).2
        · rw [if_neg k2] at hid
          exact absurd hid List.not_mem_nil

/-- P47, P49: what is told, in order: IDs that are unlike, each tree's parts told ahead of it -/
theorem told_once {cutf : Bs → List Bs} {w : List It} (hg : Good cutf w) {l : List Bl} {id : Bs} (h : plantDir cutf w 9 [] [] = (l, id, 0)) :
    Fine l ∧ (l.map Pk.bid).Nodup ∧ ∀ i b, l[i]? = some b → Told (l.take i) b := by
  obtain ⟨_, b2, _⟩ := plant_back hg 9 [] [] l id h
  have hF : Fine l := b2 ⟨fun _ q => absurd q List.not_mem_nil, fun _ q => absurd q List.not_mem_nil⟩
  have el := (plant_pure cutf w 9 [] [] l id h).2
  have hnd : l.Nodup := by rw [el]; exact tell_nodup _ [] List.nodup_nil
  refine ⟨hF, fine_ids hF hnd, fun i b hb => ?_⟩
  have ho := plant_ord hg 9 [] [] l id h
  rw [el] at hb ⊢
  obtain ⟨pre, post, e1, e2⟩ := tell_first _ _ rfl i b hb
  rw [e2]
  exact (ho pre b post e1).more fun x hx => (mem_tell pre [] x).2 (.inr hx)

end Wk

end Go.Proofs.YtimdioacmojkeabGreatDoor

namespace Go.Proofs.YtimdioacmojkeabGreatDoor
namespace Wk
open Nn (Name)
open Pk (Bl)

/-- what a planted directory's things were planted with -/
theorem things_at {cutf : Bs → List Bs} {w : List It} {k : Nat} : ∀ (xs : List It) (l l1 : List Bl) (nodes : List Td.Nd), things cutf (plantDir cutf w k) xs l = (l1, nodes, 0) → ∀ x ∈ xs, x.kind = 2 →
    ∃ l' l1' id, plantDir cutf w k x.nms l' = (l1', id, 0) ∧ ∀ y ∈ l1', y ∈ l1 := by
  intro xs
  induction xs with
  | nil => exact fun _ _ _ _ x hx => absurd hx List.not_mem_nil
  | cons y xs ihx =>
    intro l l1 nodes h x hx k2
    rw [things] at h
    rcases hty : thing cutf (plantDir cutf w k) y l with ⟨l2, ids, e1⟩
    rw [hty] at h
    simp only at h
    split at h
    · rename_i q; exact absurd (congrArg (fun z => z.2.2) h) q
    rename_i q
    obtain rfl := Decidable.not_not.mp q
    rcases hr : things cutf (plantDir cutf w k) xs l2 with ⟨l3, ns, e2⟩
    rw [hr] at h
    obtain rfl : l3 = l1 := congrArg (fun z => z.1) h
    obtain rfl : e2 = 0 := congrArg (fun z => z.2.2) h
    rcases List.mem_cons.1 hx with rfl | hx
    · unfold thing at hty
      rw [if_neg (by omega), if_pos k2] at hty
      rcases hp : plantDir cutf w k x.nms l with ⟨l4, id, e3⟩
      rw [hp] at hty
      obtain rfl : l4 = l2 := congrArg (fun z => z.1) hty
      obtain rfl : e3 = 0 := congrArg (fun z => z.2.2) hty
      exact ⟨_, _, _, hp, things_pure_sub hr⟩
    · exact ihx l2 l3 ns hr x hx k2
where
  things_pure_sub {cutf : Bs → List Bs} {w : List It} {k : Nat} {xs : List It} {l l1 : List Bl} {nodes : List Td.Nd} (h : things cutf (plantDir cutf w k) xs l = (l1, nodes, 0)) : ∀ y ∈ l, y ∈ l1 := fun y hy => by
    rw [(things_pure (plant_pure cutf w k) xs l l1 nodes h).2]
    exact (mem_tell _ _ y).2 (.inl hy)

/-- a directory that was planted: its nodes, read out of its text -/
theorem dir_read {cutf : Bs → List Bs} {w : List It} (hg : Good cutf w) {k : Nat} {p : List Name} {l l1 : List Bl} {id : Bs} (h : plantDir cutf w (k + 1) p l = (l1, id, 0)) :
    Td.read (tx cutf w (k + 1) p) = (nodesOf cutf w k p, 0) ∧ ∀ x ∈ kids It.nms w p, x.kind = 2 → ∃ l' l1' id', plantDir cutf w k x.nms l' = (l1', id', 0) ∧ ∀ y ∈ l1', y ∈ l1 := by
  rw [plantDir] at h
  rcases ht : things cutf (plantDir cutf w k) (kids It.nms w p) l with ⟨l2, nodes, e1⟩
  rw [ht] at h
  simp only at h
  split at h
  · rename_i q; exact absurd (congrArg (fun z => z.2.2) h) q
  rename_i q
  obtain rfl := Decidable.not_not.mp q
  rcases hs : Td.write nodes with ⟨s, e2⟩
  rw [hs] at h
  simp only at h
  split at h
  · rename_i q; exact absurd (congrArg (fun z => z.2.2) h) q
  rename_i q
  obtain rfl := Decidable.not_not.mp q
  obtain ⟨r1, r2⟩ := things_pure (plant_pure cutf w k) (kids It.nms w p) l l2 nodes ht
  obtain ⟨_, _, c3, _⟩ := things_back hg (plant_back hg k) p (kids It.nms w p) l l2 nodes (fun x hx => mem_kids.1 hx) ht
  obtain ⟨_, _, _, i4, _⟩ := into_ok h
  have hst : s = tx cutf w (k + 1) p := by rw [(write_text hs).1, r1]; rfl
  refine ⟨?_, fun x hx k2 => (things_at _ _ _ _ ht x hx k2).imp fun _ h => h.imp fun _ h => h.imp fun _ h => ⟨h.1, fun y hy => i4 y (h.2 y hy)⟩⟩
  rw [← hst, Td.read_write c3 hs, r1]
  rfl

/-- who needs a blob -/
def Needed (bs : List Bl) (b : Bl) : Prop := ∃ t ∈ bs, t.1 = 2 ∧ ∃ nodes, Td.read t.2 = (nodes, 0) ∧ ∃ n ∈ nodes, Pk.bid b ∈ n.parts

/-- all but the directory's own are needed -/
theorem all_needed {cutf : Bs → List Bs} {w : List It} (hg : Good cutf w) : ∀ (k : Nat) (p : List Name) (l l1 : List Bl) (id : Bs), plantDir cutf w k p l = (l1, id, 0) → ∀ b ∈ blobsOf cutf w k p, b = (2, tx cutf w k p) ∨ Needed (blobsOf cutf w k p) b := by
  intro k
  induction k with
  | zero =>
    intro p l l1 id h
    rw [plantDir] at h
    exact absurd (congrArg (fun z => z.2.2) h) (by simp)
  | succ k ih =>
    intro p l l1 id h b hb
    obtain ⟨hread, hsub⟩ := dir_read hg h
    have hown : ((2, tx cutf w (k + 1) p) : Bl) ∈ blobsOf cutf w (k + 1) p := own_in (k + 1) (by omega)
    have need : ∀ x ∈ kids It.nms w p, ∀ i ∈ idsOf cutf (tx cutf w k) x, Pk.bid b = i → Needed (blobsOf cutf w (k + 1) p) b := fun x hx i hi e =>
      ⟨_, hown, rfl, _, hread, node x (idsOf cutf (tx cutf w k) x), List.mem_map_of_mem hx, by rw [e]; exact hi⟩
    have hb' := hb
    rw [blobsOf] at hb'
    rcases List.mem_append.1 hb' with hb' | hb'
    · right
      obtain ⟨x, hx, hbx⟩ := List.mem_flatMap.1 hb'
      unfold blobsIn at hbx
      by_cases k1 : x.kind = 1
      · rw [if_pos k1] at hbx
        obtain ⟨q, hq, rfl⟩ := List.mem_map.1 hbx
        refine need x hx _ ?_ rfl
        unfold idsOf
        rw [if_pos k1]
        exact List.mem_map_of_mem (f := fun p => Pk.bid (1, p)) hq
      · rw [if_neg k1] at hbx
        by_cases k2 : x.kind = 2
        · rw [if_pos k2] at hbx
          obtain ⟨l', l1', id', hp, _⟩ := hsub x hx k2
          rcases ih _ _ _ _ hp b hbx with rfl | ⟨t, ht, h1, h2⟩
          · refine need x hx _ ?_ rfl
            unfold idsOf
            rw [if_neg k1, if_pos k2]
            exact List.mem_singleton.2 rfl
          · refine ⟨t, ?_, h1, h2⟩
            rw [blobsOf]
            refine List.mem_append_left _ (List.mem_flatMap.2 ⟨x, hx, ?_⟩)
            unfold blobsIn
            rw [if_neg k1, if_pos k2]
            exact ht
        · rw [if_neg k2] at hbx
          exact absurd hbx List.not_mem_nil
    · exact .inl (List.mem_singleton.1 hb')

/-- a tree blob among the blobs of a directory is a directory's, which was planted -/
theorem tree_at {cutf : Bs → List Bs} {w : List It} (hg : Good cutf w) : ∀ (k : Nat) (p : List Name) (l l1 : List Bl) (id : Bs), plantDir cutf w k p l = (l1, id, 0) → ∀ b ∈ blobsOf cutf w k p, b.1 = 2 →
    ∃ k' q l' l1' id', plantDir cutf w k' q l' = (l1', id', 0) ∧ b = (2, tx cutf w k' q) ∧ (∀ y ∈ l1', y ∈ l1) ∧ (q = p ∨ ∃ d ∈ w, d.nms = q) := by
  intro k
  induction k with
  | zero =>
    intro p l l1 id h
    rw [plantDir] at h
    exact absurd (congrArg (fun z => z.2.2) h) (by simp)
  | succ k ih =>
    intro p l l1 id h b hb b2
    obtain ⟨_, hsub⟩ := dir_read hg h
    rw [blobsOf] at hb
    rcases List.mem_append.1 hb with hb | hb
    · obtain ⟨x, hx, hbx⟩ := List.mem_flatMap.1 hb
      unfold blobsIn at hbx
      by_cases k1 : x.kind = 1
      · rw [if_pos k1] at hbx
        obtain ⟨q, _, rfl⟩ := List.mem_map.1 hbx
        cases b2
      · rw [if_neg k1] at hbx
        by_cases k2 : x.kind = 2
        · rw [if_pos k2] at hbx
          obtain ⟨l', l1', id', hp, hs⟩ := hsub x hx k2
          obtain ⟨k', q, a, a1, i, h1, h2, h3, h4⟩ := ih _ _ _ _ hp b hbx b2
          refine ⟨k', q, a, a1, i, h1, h2, fun y hy => hs y (h3 y hy), .inr ?_⟩
          rcases h4 with h4 | h4
          · exact ⟨x, (mem_kids.1 hx).1, h4.symm⟩
          · exact h4
        · rw [if_neg k2] at hbx
          exact absurd hbx List.not_mem_nil
    · exact ⟨k + 1, p, l, l1, id, h, List.mem_singleton.1 hb, fun _ q => q, .inl rfl⟩

/-- how many items lie beneath an ID -/
def cnt (L : List Bl) : Nat → Bs → Nat
  | 0, _ => 0
  | k + 1, id => ((Td.read (blobOf L id 2).1).1.map fun n => 1 + (if n.kind = 2 then cnt L k (n.parts.headD []) else 0)).sum

theorem reap_cnt (L : List Bl) : ∀ (k : Nat) (id : Bs) (p : List Name) (acc r : List It), reapDir L k id p acc = (r, 0) → r.length = acc.length + cnt L k id ∧ ∀ j, cnt L (k + j) id = cnt L k id := by
  intro k
  induction k with
  | zero =>
    intro id p acc r h
    rw [reapDir] at h
    exact absurd (congrArg (fun z => z.2) h) (by simp)
  | succ k ih =>
    intro id p acc r h
    rw [reapDir] at h
    split at h
    · rename_i q; exact absurd (congrArg (fun z => z.2) h) q
    simp only at h
    split at h
    · rename_i q; exact absurd (congrArg (fun z => z.2) h) q
    have inner : ∀ (nodes : List Td.Nd) (acc r : List It), reapNodes L (reapDir L k) p nodes acc = (r, 0) → r.length = acc.length + (nodes.map fun n => 1 + (if n.kind = 2 then cnt L k (n.parts.headD []) else 0)).sum ∧
        ∀ j, (nodes.map fun n => 1 + (if n.kind = 2 then cnt L (k + j) (n.parts.headD []) else 0)).sum = (nodes.map fun n => 1 + (if n.kind = 2 then cnt L k (n.parts.headD []) else 0)).sum := by
      intro nodes
      induction nodes with
      | nil =>
        intro acc r h
        rw [reapNodes] at h
        obtain rfl : acc = r := congrArg (fun z => z.1) h
        exact ⟨by simp, fun j => by simp⟩
      | cons n nodes ihn =>
        intro acc r h
        rw [reapNodes] at h
        split at h
        · exact absurd (congrArg (fun z => z.2) h) (by simp)
        split at h
        · exact absurd (congrArg (fun z => z.2) h) (by simp)
        rcases hf : (if n.kind = 1 then reapFile L n.size n.parts [] else (n.link, 0)) with ⟨bt, e1⟩
        simp only [hf] at h
        by_cases h1 : e1 ≠ 0
        · rw [if_pos h1] at h
          exact absurd (congrArg (fun z => z.2) h) h1
        rw [if_neg h1] at h
        rcases hsd : (if n.kind = 2 then reapDir L k (n.parts.headD []) (p ++ [n.name]) (acc ++ [item p n bt]) else (acc ++ [item p n bt], 0)) with ⟨w1, e2⟩
        simp only [hsd] at h
        by_cases h2 : e2 ≠ 0
        · rw [if_pos h2] at h
          exact absurd (congrArg (fun z => z.2) h) h2
        rw [if_neg h2] at h
        obtain rfl := Decidable.not_not.mp h2
        obtain ⟨i1, i2⟩ := ihn _ _ h
        by_cases k2 : n.kind = 2
        · rw [if_pos k2] at hsd
          obtain ⟨d1, d2⟩ := ih _ _ _ _ hsd
          refine ⟨?_, fun j => ?_⟩
          · rw [i1, d1, List.map_cons, List.sum_cons, if_pos k2, List.length_append, List.length_singleton]
            omega
          · rw [List.map_cons, List.map_cons, List.sum_cons, List.sum_cons, i2 j, if_pos k2, if_pos k2, d2 j]
        · rw [if_neg k2] at hsd
          obtain rfl : acc ++ [item p n bt] = w1 := congrArg (fun z => z.1) hsd
          refine ⟨?_, fun j => ?_⟩
          · rw [i1, List.map_cons, List.sum_cons, if_neg k2, List.length_append, List.length_singleton]
            omega
          · rw [List.map_cons, List.map_cons, List.sum_cons, List.sum_cons, i2 j, if_neg k2, if_neg k2]
    obtain ⟨a1, a2⟩ := inner _ _ _ h
    refine ⟨by rw [a1, cnt], fun j => ?_⟩
    rw [show k + 1 + j = (k + j) + 1 from by omega, cnt, cnt, a2 j]

theorem dfs_sub {w : List It} : ∀ (k : Nat) (p : List Name) (x : It), x ∈ dfs It.nms It.dir w k p → x ∈ w
  | 0, _, _, h => absurd h List.not_mem_nil
  | k + 1, p, x, h => by
    rw [dfs, List.mem_flatMap] at h
    obtain ⟨y, hy, hx⟩ := h
    rcases List.mem_cons.1 hx with rfl | hx
    · exact (mem_kids.1 hy).1
    · split at hx
      · exact dfs_sub k y.nms x hx
      · exact absurd hx List.not_mem_nil

theorem dfs_nodup {w : List It} (hs : Sorted It.nms w) (k : Nat) (p : List Name) : (dfs It.nms It.dir w k p).Nodup := by
  refine List.Pairwise.imp ?_ (dfs_sorted hs k p)
  intro a b h e
  rw [e, Nn.ahead_irr] at h
  cases h

/-- the root's blob is told last: no directory beneath it has its text -/
theorem root_last {cutf : Bs → List Bs} {w : List It} (hg : Good cutf w) (hw : w.length ≤ 100) {l : List Bl} {id : Bs} (h : plantDir cutf w 9 [] [] = (l, id, 0)) :
    ((2, tx cutf w 9 []) : Bl) ∉ (kids It.nms w []).flatMap (blobsIn cutf (blobsOf cutf w 8)) := fun hm => by
  obtain ⟨x, hx, hbx⟩ := List.mem_flatMap.1 hm
  have hid := (plant_pure cutf w 9 [] [] l id h).1
  obtain ⟨_, b2, _, b4⟩ := plant_back hg 9 [] [] l id h
  have hF : Fine l := b2 ⟨fun _ q => absurd q List.not_mem_nil, fun _ q => absurd q List.not_mem_nil⟩
  have hd9 : dfs It.nms It.dir w 9 [] = w := dfs_all hg.right.sorted hg.right.closed 9 fun x hx => by
    have := errsF_few _ 0 (errs_nms (iErr_ok (hg.right.each x hx))) (by omega)
    omega
  have hroot := b4 l hF (fun _ q => q) [] (by rw [hd9, List.length_nil]; omega)
  rw [hd9, List.nil_append] at hroot
  obtain ⟨c1, c2⟩ := reap_cnt l 9 id [] [] w hroot
  -- a directory beneath with the root's text
  obtain ⟨k', q, a, a1, i, h1, h2, h3, d, hdw, hdq⟩ : ∃ k' q l' l1' id', plantDir cutf w k' q l' = (l1', id', 0) ∧ ((2, tx cutf w 9 []) : Bl) = (2, tx cutf w k' q) ∧ (∀ y ∈ l1', y ∈ l) ∧ ∃ d ∈ w, d.nms = q := by
    unfold blobsIn at hbx
    by_cases k1 : x.kind = 1
    · rw [if_pos k1] at hbx
      obtain ⟨q, _, e⟩ := List.mem_map.1 hbx
      cases congrArg Prod.fst e
    · rw [if_neg k1] at hbx
      by_cases k2 : x.kind = 2
      · rw [if_pos k2] at hbx
        obtain ⟨l', l1', id', hp, hs⟩ := (dir_read hg h).2 x hx k2
        obtain ⟨k', q, a, a1, i, h1, h2, h3, h4⟩ := tree_at hg _ _ _ _ _ hp _ hbx rfl
        refine ⟨k', q, a, a1, i, h1, h2, fun y hy => hs y (h3 y hy), ?_⟩
        rcases h4 with h4 | h4
        · exact ⟨x, (mem_kids.1 hx).1, h4.symm⟩
        · exact h4
      · rw [if_neg k2] at hbx
        exact absurd hbx List.not_mem_nil
  have hsub : (dfs It.nms It.dir w k' q).length + 1 ≤ w.length := by
    haveI : DecidableEq It := fun _ _ => Classical.propDecidable _
    have := nodup_le (a := d :: dfs It.nms It.dir w k' q) (b := w) (List.nodup_cons.2 ⟨fun hm => ?_, dfs_nodup hg.right.sorted k' q⟩) fun y hy => ?_
    · rwa [List.length_cons] at this
    · obtain ⟨r, hr, er⟩ := dfs_beneath k' q d hm
      rw [hdq] at er
      exact hr (List.append_cancel_left (er.symm.trans (List.append_nil q).symm))
    · rcases List.mem_cons.1 hy with rfl | hy
      · exact hdw
      · exact dfs_sub _ _ _ hy
  obtain ⟨_, _, _, e4⟩ := plant_back hg k' q a a1 i h1
  have hi : i = id := by rw [(plant_pure cutf w k' q a a1 i h1).1, ← h2, hid]
  have hq := e4 l hF h3 [] (by rw [List.length_nil]; omega)
  rw [hi, List.nil_append] at hq
  obtain ⟨f1, f2⟩ := reap_cnt l k' id q [] _ hq
  have e1 := c2 k'
  have e2 := f2 9
  rw [Nat.add_comm] at e1
  rw [List.length_nil] at c1 f1
  omega

end Wk

end Go.Proofs.YtimdioacmojkeabGreatDoor

namespace Go.Proofs.YtimdioacmojkeabGreatDoor
namespace Wk
/-- a file in a directory -/
def small : List It := [⟨[47, 100], 2, 0, 0, []⟩, ⟨[47, 100, 47, 102], 1, 0, 0, [48, 49, 50, 51, 52, 53, 54, 55, 56, 57, 97, 98, 99, 100, 101, 102, 48, 49, 50, 51, 52, 53, 54, 55, 56, 57, 97, 98, 99, 100, 101, 102, 33]⟩]

theorem small_world : world small = 0 := by decide +kernel

theorem small_plant : (plantDir (Ck.fixed 16) small 9 [] []).2.2 = 0 ∧ (plantDir (Ck.fixed 16) small 9 [] []).1.length = 4 := by decide +kernel

end Wk

end Go.Proofs.YtimdioacmojkeabGreatDoor

namespace Go.Proofs.YtimdioacmojkeabGreatDoor
open Go.RowKit
set_option maxRecDepth 4000
namespace Wk
/-- blobs into a heap, one by one -/
def gath : List Pk.Bl → List Pk.Bl → List Pk.Bl × Int
  | [], l => (l, 0)
  | b :: r, l => if (into l b).2.2 ≠ 0 then ([], (into l b).2.2) else gath r (into l b).1

def heapP (l : List Pk.Bl) : List Pk.Bl × Int := if 1000 < l.length then ([], 2) else gath l []

end Wk

theorem pl_length (l : List Blb) : (pl l).length = l.length := List.length_map _

theorem gath_step {l : List Blb} {j : Nat} {x : Blb} (hx : l[j]? = some x) {bk : List Blb} {R : List Pk.Bl × Int} (h : R = Wk.gath (pl (l.drop j)) (pl bk)) :
    (errI bk x ≠ 0 → R = ([], errI bk x)) ∧ (errI bk x = 0 → R = Wk.gath (pl (l.drop (j + 1))) (pl (more bk x))) := by
  have hlt := (List.getElem?_eq_some_iff.1 hx).1
  have e0 : pl (l.drop j) = x.p :: pl (l.drop (j + 1)) := by
    rw [List.drop_eq_getElem_cons hlt, (List.getElem?_eq_some_iff.1 hx).2]; rfl
  rw [e0, Wk.gath] at h
  constructor
  · intro hE
    rw [h, if_pos (show (Wk.into (pl bk) x.p).2.2 ≠ 0 from hE)]; rfl
  · intro hE
    rw [h, if_neg (show ¬ (Wk.into (pl bk) x.p).2.2 ≠ 0 from fun q => q hE), more_pl hE]

theorem Mp.keptne {w w' : World} {m n : Nat} {l : List (List UInt8 × Value)} (h : Mp w m n l) (hb : Below w.heap.size w w') : Mp w' m n l := h.below hb

set_option maxHeartbeats 4000000 in
set_option maxRecDepth 10000 in
theorem heapOf_any (v : Value) (l : List Blb) (w : World) (h : Bx w v l) (hok : BOk l) (hl : l.length ≤ 140737488351232) (R : List Pk.Bl × Int) (hR : R = Wk.heapP (pl l)) :
    Calls Tryz.prog 26 #[v] w fun e w' => ∃ hv, e = .returned (.tuple #[hv, .int .i64 R.2]) ∧ Below w.heap.size w w' ∧ (R.2 ≠ 0 → hv = .map none) ∧ (R.2 = 0 → ∃ m n bs, hv = .map (some m) ∧ n ≤ 1000 ∧ bs.length ≤ 1000 ∧ pl bs = R.1 ∧ w.heap.size ≤ m ∧ Mp w' m n (mpB bs)) := by
  obtain ⟨a, c, rfl, hc1, hc2⟩ := h.slice
  by_cases h1000 : 1000 < l.length
  · have HR : Hid (R = ([], 2)) := by show _ = _; rw [hR]; unfold Wk.heapP; rw [if_pos (by rw [pl_length]; exact h1000)]
    clear hR
    generalize l.length = n at *
    go_enter Tryz.func26, Tryz.ntmps26
    go_wp2_with fail
    go_ret2
    exact ⟨_, by rw [HR.out]; rfl, Below.refl _ _, fun _ => rfl, fun e => by rw [HR.out] at e; cases e⟩
  have HR0 : Hid (R = Wk.gath (pl (l.drop 0)) (pl [])) := by
    show _ = _; rw [hR]; unfold Wk.heapP; rw [if_neg (by rw [pl_length]; exact h1000)]; rfl
  have HX : Hid (Bx w (.slice a l.length c) l) := h
  have HK : Hid (BOk l) := hok
  have hmk := run_makeMap (P := Tryz.prog) 56 w
  have HM0 : Hid (Mp (w.alloc (.map #[] 0)) w.heap.size 0 (mpB [])) := Mp.new w
  have HB0 : Hid (Below w.heap.size w (w.alloc (.map #[] 0))) := (Below.refl _ w).alloc (Nat.le_refl _) _
  have hl1000 : l.length ≤ 1000 := by omega
  obtain ⟨N, hN⟩ : ∃ N, N = l.length := ⟨_, rfl⟩
  have HN : Hid (N = l.length) := hN
  rw [← hN] at HX hl1000 hc1 ⊢
  clear h hok hR h1000 hN
  go_enter Tryz.func26, Tryz.ntmps26
  go_wp2_with fail
  go_loopw [16] (fun i wr => ∃ (j n : Nat) (bk : List Blb), j ≤ N ∧ i = .int .i64 j ∧ n ≤ j ∧ bk.length ≤ j ∧ Hid (R = Wk.gath (pl (l.drop j)) (pl bk)) ∧ Hid (Mp wr w.heap.size n (mpB bk)) ∧ Hid (Below w.heap.size w wr)) (fun i _ => N - (intOf i).toNat)
  case atStart => exact ⟨0, 0, [], by omega, rfl, Nat.le_refl _, by simp, HR0, HM0, HB0⟩
  case round =>
    clear HR0 HM0 HB0 hmk
    obtain ⟨j, n, bk, hj, rfl, hnj, hbj, HR, HM, HB⟩ := hrel
    by_cases hlt : j < N
    · have hjl : j < l.length := by rw [← HN.out]; exact hlt
      obtain ⟨x, hx⟩ : ∃ x, l[j]? = some x := ⟨_, List.getElem?_eq_getElem hjl⟩
      have hXr := HX.out.below HB.out
      rw [HN.out] at hXr
      obtain ⟨kb, ko, rfl, hkb, x0, x1⟩ := hXr.blob j x hx
      obtain ⟨s1, s2⟩ := gath_step hx HR.out
      have HS1 : Hid (errI bk x ≠ 0 → R = ([], errI bk x)) := s1
      have HS2 : Hid (errI bk x = 0 → R = Wk.gath (pl (l.drop (j + 1))) (pl (more bk x))) := s2
      have hmore := more_length bk x
      obtain ⟨WA, hWA⟩ : ∃ WA, WA = wr.alloc (.cells #[.int .i64 x.kind, .string x.bytes] 42) := ⟨_, rfl⟩
      have hbA : Below wr.heap.size wr WA := by rw [hWA]; exact (Below.refl _ wr).alloc (Nat.le_refl _) _
      have HBA : Hid (Below w.heap.size w WA) := HB.out.trans (hbA.mono HB.out.size)
      have hput := hput_any w.heap.size n bk x WA (HM.out.below hbA) (by omega) (HK.out x (List.mem_of_getElem? hx)).2
      obtain ⟨b0, b1, b2, b3, b4, b5, b6, b7, hL⟩ := eight _ (idI_length bk x)
      have hput' : Calls Tryz.prog 42 #[.map (some w.heap.size), .agg #[.int .i64 x.kind, .string x.bytes]] WA fun e w' => e = .returned (.tuple #[.agg #[.int .u8 (b0.toNat : Int), .int .u8 (b1.toNat : Int), .int .u8 (b2.toNat : Int), .int .u8 (b3.toNat : Int), .int .u8 (b4.toNat : Int), .int .u8 (b5.toNat : Int), .int .u8 (b6.toNat : Int), .int .u8 (b7.toNat : Int)], .bool (newI bk x), .int .i64 (errI bk x)]) ∧ (∃ n', n' ≤ n + 1 ∧ Mp w' w.heap.size n' (mpB (more bk x))) ∧ Kept (fun k => k ≠ w.heap.size) WA w' := by
        rw [hL] at hput
        exact hput
      have hmw : w.heap.size < WA.heap.size := by have := HM.out.lt; have := hbA.size; omega
      generalize newI bk x = NW at *
      generalize errI bk x = ER at *
      generalize more bk x = MB at *
      obtain ⟨xk, xb⟩ := x
      dsimp only at *
      clear hput hL s1 s2 hXr hx hjl hbA HM HR
      go_wp2_with fail
      rw [← hWA]
      refine hput'.mono ?_
      rintro e w3 ⟨rfl, ⟨n', hn', hm3⟩, k3⟩
      have HB3 : Hid (Below w.heap.size w w3) := HBA.out.trans (k3.below (Nat.le_of_lt hmw) (fun k hk => by omega))
      have HM3 : Hid (Mp w3 w.heap.size n' (mpB MB)) := hm3
      have hs3 := HB3.out.size
      clear hWA hput' hm3 k3 x0 x1 hkb hmw HB HBA
      by_cases hE : ER = 0
      · have HR2 := (show Hid _ from HS2.out hE)
        subst hE
        have HB4 : Hid (Below w.heap.size w (w3.alloc (.cells #[.int .u8 (b0.toNat : Int), .int .u8 (b1.toNat : Int), .int .u8 (b2.toNat : Int), .int .u8 (b3.toNat : Int), .int .u8 (b4.toNat : Int), .int .u8 (b5.toNat : Int), .int .u8 (b6.toNat : Int), .int .u8 (b7.toNat : Int)] 30))) := HB3.out.alloc hs3 _
        have HM4 : Hid (Mp (w3.alloc (.cells #[.int .u8 (b0.toNat : Int), .int .u8 (b1.toNat : Int), .int .u8 (b2.toNat : Int), .int .u8 (b3.toNat : Int), .int .u8 (b4.toNat : Int), .int .u8 (b5.toNat : Int), .int .u8 (b6.toNat : Int), .int .u8 (b7.toNat : Int)] 30)) w.heap.size n' (mpB MB)) := HM3.out.below ((Below.refl _ w3).alloc (Nat.le_refl _) _)
        clear HS1 HS2
        go_wp2_with fail
        go_roundw
        case measure => simp only [intOf]; omega
        case rel => exact ⟨j + 1, n', MB, by omega, by go_num, by omega, by omega, HR2, HM4, HB4⟩
      · have hRe := HS1.out hE
        have HRe : Hid (R = ([], ER)) := hRe
        have hne : (ER != 0) = true := by rw [bne_iff_ne]; exact hE
        have HE : Hid (ER ≠ 0) := hE
        have HB4 : Hid (Below w.heap.size w (w3.alloc (.cells #[.int .u8 (b0.toNat : Int), .int .u8 (b1.toNat : Int), .int .u8 (b2.toNat : Int), .int .u8 (b3.toNat : Int), .int .u8 (b4.toNat : Int), .int .u8 (b5.toNat : Int), .int .u8 (b6.toNat : Int), .int .u8 (b7.toNat : Int)] 30))) := HB3.out.alloc hs3 _
        clear HS1 HS2 hRe hE
        go_wp2_with fail
        go_ret2
        exact ⟨_, by rw [HRe.out]; rfl, HB4.out, fun _ => rfl, fun e => by rw [HRe.out] at e; exact absurd e HE.out⟩
    · obtain rfl : j = N := by omega
      have HRe : Hid (R = (pl bk, 0)) := by
        have e : l.drop j = [] := by rw [HN.out]; exact List.drop_of_length_le (Nat.le_refl _)
        show _ = _
        rw [HR.out, e]; rfl
      clear HR
      go_wp2_with fail
      go_ret2
      exact ⟨_, by rw [HRe.out]; rfl, HB.out, fun e => absurd (by rw [HRe.out]) e, fun _ => ⟨_, n, bk, rfl, by omega, by omega, by rw [HRe.out], Nat.le_refl _, HM.out⟩⟩

end Go.Proofs.YtimdioacmojkeabGreatDoor
