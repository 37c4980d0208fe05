/-
  What Coded of the document's answer (package lumref) answers.
  What Press of the document's answer (package lumref) answers.
  What PackMake of the document's answer (package lumref) answers.
  What idAt of package pack answers: the first eight bytes.
  What readNumber and readEntry of package pack answer.
  The walk of lumlaw.PackMakes: it returns true.
-/
import Derived.Test.YtkhejelmjkpgfaaG7
import Derived.Test.YtkhejelmjkpgfaaG6
import Derived.Test.YtkhejelmjkpgfaaG1
import Derived.Test.YtkhejelmjkpgfaaG8
import Derived.Test.YtkhejelmjkpgfaaG0
import Derived.Deep.CutRange
import Derived.Deep.RegionHeld3
import Derived.Test.YtkhejelmjkpgfaaG2
import Derived.Lib.LazyBuf
import Derived.Test.YtkhejelmjkpgfaaG4

namespace Go.Proofs.Ytkhejelmjkpgfaa
open Go.RowKit
set_option maxRecDepth 4000

/-- '[]byte(s)': a row of its own -/
theorem conv_bytes (w : World) (s : ByteArray) : ∃ W1 cap, (convert 9 51 (.string s)).run Try.prog w = .ok (.slice (some ⟨w.heap.size, 0, none⟩) s.size cap) W1 ∧ Below w.heap.size w W1 ∧ w.heap.size < W1.heap.size ∧ ∀ j (hj : j < s.size), W1.cell? ⟨w.heap.size, j, none⟩ = some (.int .u8 (s[j].toNat : Int)) := by
  have hcv := run_bytes_of_string (P := Try.prog) w 9 51 5 s (by kernel_rfl) (by kernel_rfl) (by kernel_rfl)
  exact ⟨_, _, hcv, ((Below.refl _ w).alloc (Nat.le_refl _) _).drew, by simp, fun j hj => bytes_cell w s _ _ j hj⟩
theorem cell_kept {p : Nat → Prop} {A B : World} (h : Kept p A B) {g : Nat} (hg : g < A.heap.size) (hp : p g) (k : Nat) : B.cell? ⟨g, k, none⟩ = A.cell? ⟨g, k, none⟩ := by
  simp only [World.cell?, h.block g hg hp]
theorem info_str : (Try.prog.info? 9).map (fun i => (i.zero, i.size, i.bytes)) = some (some (.string ⟨#[]⟩), 1, 16) := by kernel_rfl
namespace Pr
def manyTo (l : List Nat) : Nat → Nat
  | 0 => 0
  | k + 1 => if 0 < l.getD k 0 then manyTo l k + 1 else manyTo l k
theorem many_to (l : List Nat) (k n : Nat) : manyTo l k + manyFrom l k n = manyTo l (k + n) := by
  induction n generalizing k with
  | zero => rfl
  | succ n ih =>
    rw [show k + (n + 1) = (k + 1) + n by omega, ← ih, manyFrom, manyTo]
    split <;> omega
theorem manyTo_all (l : List Nat) (n : Nat) : manyTo l n = manyFrom l 0 n := by
  have := many_to l 0 n
  rw [Nat.zero_add] at this
  rw [← this, manyTo]
  omega
theorem bytesN_snoc (k : Nat) (b : List Bool) : bytesN (k + 1) b = bytesN k b ++ [val ((b.drop (8 * k)).take 8)] := by
  induction k generalizing b with
  | zero => simp [bytesN]
  | succ k ih =>
    rw [bytesN, ih, bytesN, List.drop_drop, show 8 + 8 * k = 8 * (k + 1) by omega]
    rfl
theorem manyTo_le (l : List Nat) (k : Nat) : manyTo l k ≤ k := by
  induction k with
  | zero => exact Nat.le_refl _
  | succ k ih =>
    rw [manyTo]
    split <;> omega
/-- a sign's word as a text -/
def wS (l : List Nat) (i : Nat) : ByteArray := ⟨(sb (W l i)).toArray⟩
theorem wS_list (l : List Nat) (i : Nat) : (wS l i).data.toList = sb (W l i) := rfl
theorem wS_none {l : List Nat} {i : Nat} (h : l.getD i 0 = 0) : wS l i = ⟨#[]⟩ := by
  unfold wS W
  rw [h]
  rfl
theorem wS_size (l : List Nat) (i : Nat) : (wS l i).size = l.getD i 0 := by rw [Lib.size_eq, wS_list, sb_length, W_length]
end Pr
def strSz (v : Value) : Nat := match v with
  | .string s => s.size
  | _ => 0
theorem repeat_zero (z : Nat) : Lib.repeatL (⟨#[48]⟩ : ByteArray).data.toList z = (List.replicate z false).map fun x : Bool => if x then (49 : UInt8) else 48 := by
  induction z with
  | zero => rfl
  | succ z ih =>
    rw [List.replicate_succ, List.map_cons, ← ih]
    rfl
/-- two texts one behind the other -/
theorem cat_bytes (a : ByteArray) (l : List UInt8) (h : a.data.toList.length ≤ 1000000) (h2 : l.length ≤ 1000000) : ∀ W : World, (Op.stringOp .add a ⟨l.toArray⟩).run Try.prog W = .ok (.string ⟨(a.data.toList ++ l).toArray⟩) W := fun W => by
  have e : a = ⟨a.data.toList.toArray⟩ := by cases a; rfl
  rw [e]
  exact run_string_add_lists W _ l (by omega) (by omega)
theorem cat_two (a b : ByteArray) (h : a.data.toList.length ≤ 1000000) (h2 : b.data.toList.length ≤ 1000000) : ∃ c : ByteArray, c.data.toList = a.data.toList ++ b.data.toList ∧ ∀ W : World, (Op.stringOp .add a b).run Try.prog W = .ok (.string c) W := by
  refine ⟨⟨(a.data.toList ++ b.data.toList).toArray⟩, rfl, fun W => ?_⟩
  have e : b = ⟨b.data.toList.toArray⟩ := by cases b; rfl
  conv => lhs; rw [e]
  exact cat_bytes a _ h h2 W
/-- a row of 256 texts -/
def rowW (f : Nat → ByteArray) : List Value := (List.range 256).map fun i => .string (f i)
theorem rowW_length (f : Nat → ByteArray) : (rowW f).length = 256 := by simp [rowW]
theorem rowW_get (f : Nat → ByteArray) {i : Nat} (h : i < 256) : (rowW f)[i]? = some (.string (f i)) := by
  unfold rowW
  rw [List.getElem?_map, List.getElem?_range h]
  rfl
theorem rowW_set (f : Nat → ByteArray) (i : Nat) (x : ByteArray) : (rowW f).set i (.string x) = rowW fun j => if j = i then x else f j := by
  refine List.ext_getElem? fun j => ?_
  by_cases h : j < 256
  · rw [List.getElem?_set, rowW_length, rowW_get _ h, rowW_get _ h]
    by_cases e : i = j
    · rw [if_pos e, if_pos (by omega), if_pos e.symm]
    · rw [if_neg e, if_neg (fun e' => e e'.symm)]
  · rw [List.getElem?_eq_none (by rw [List.length_set, rowW_length]; omega), List.getElem?_eq_none (by rw [rowW_length]; omega)]
theorem rowW_congr {f g : Nat → ByteArray} (h : ∀ i, i < 256 → f i = g i) : rowW f = rowW g :=
  List.map_congr_left fun i hi => by rw [h i (List.mem_range.1 hi)]
/-- a row of empty texts that was made -/
theorem made_texts {base g : Nat} {w : World} (h : w.ownsRow base 9 1 (.slice (some ⟨g, 0, none⟩) 256 256) 256 (madeCells (Value.string ⟨#[]⟩).cells (256 * 1)).toList) :
    w.ownsRow base 9 1 (.slice (some ⟨g, 0, none⟩) 256 256) 256 (rowW fun _ => ⟨#[]⟩) := by
  have e : (madeCells (Value.string ⟨#[]⟩).cells (256 * 1)).toList = rowW fun _ => ⟨#[]⟩ := by
    refine List.ext_getElem (by simp [size_madeCells, rowW]) fun i h1 h2 => ?_
    simp [madeCells, Value.cells, rowW, Nat.mod_one]
  rw [← e]
  exact h
theorem own_text {base g n cap : Nat} {w : World} {f : Nat → ByteArray} (h : w.ownsRow base 9 1 (.slice (some ⟨g, 0, none⟩) n cap) n (rowW f)) (k : Nat) (hk : k < 256) : w.cell? ⟨g, k, none⟩ = some (.string (f k)) := by
  have hn : n = 256 := by have := h.1; rw [rowW_length] at this; omega
  rw [h.cellAt k (by omega), rowW_get f hk]
theorem store_text {base g n cap : Nat} {w : World} {f : Nat → ByteArray} (h : w.ownsRow base 9 1 (.slice (some ⟨g, 0, none⟩) n cap) n (rowW f)) (k : Nat) (x : ByteArray) : (w.setCell ⟨g, k, none⟩ (.string x)).ownsRow base 9 1 (.slice (some ⟨g, 0, none⟩) n cap) n (rowW fun j => if j = k then x else f j) := by
  have := (h.stored k (.string x)).1
  rw [← rowW_set]
  exact this

set_option maxHeartbeats 8000000 in
set_option maxRecDepth 8000 in
theorem rcoded_any (s : ByteArray) (w : World) (hs : s.size ≤ 4096) :
    Calls Try.prog 47 #[.string s] w fun e w' => ∃ (wide : List Nat) (s' : ByteArray), e = .returned (.string s') ∧ s'.data.toList = Pr.cod s.data.toList wide ∧ Hf.HL (Pr.tally (Pr.T s.data.toList)) wide ∧ Below w.heap.size w w' := by
  obtain ⟨i0, hi, hz0, hz1, hz2⟩ := info_parts info_u8
  obtain ⟨j0, gi, gz0, gz1, gz2⟩ := info_parts info_int
  obtain ⟨k0, ki, kz0, kz1, kz2⟩ := info_parts info_str
  have hsl : s.data.toList.length ≤ 4096 := by rw [← Lib.size_eq]; exact hs
  obtain ⟨hpk, hgl⟩ := Pr.pack_greedy hsl
  have hck := Pr.chk_greedy hsl
  have hTl := Pr.T_le s.data.toList
  have h1 := rgreedy_any s w hs
  go_enter Try.func47, Try.ntmps47
  go_wp2_with fail
  refine h1.mono ?_
  rintro e w1 ⟨v1, rfl, hr1, hb1⟩
  clear h1
  have h2 := texts_any v1 (Lz.greedyR s.data.toList) w1 (Toks.of_own hr1) hck
  rw [hpk] at h2
  obtain ⟨Tk, hTk⟩ : ∃ Tk : ByteArray, Tk = ⟨(Pr.T s.data.toList).toArray⟩ := ⟨_, rfl⟩
  rw [← hTk] at h2
  have HT : Hid (Tk.data.toList = Pr.T s.data.toList) := by rw [hTk]; exact rfl
  have hTz : Tk.size ≤ 12288 := by rw [Lib.size_eq, HT.out]; omega
  have HB1 : Hid (Below w.heap.size w w1) := hb1
  clear hTk hpk hr1 hb1 hTl hgl hck
  go_wp2_with fail
  refine h2.mono ?_
  rintro e w2 ⟨rfl, hb2⟩
  have HB2 : Hid (Below w.heap.size w w2) := HB1.out.trans (hb2.mono HB1.out.size)
  clear h2 hb2 HB1
  go_wp2_with (at_make; refine wpList_make_full _ rfl (.const (.int .i64 256)) (.const (.int .i64 256)) 82 rfl w2.heap.size 3 j0 (.int .i64 0) 1 Try.underlying82 gi gz0 gz1 .i64 .i64 _ _ 256 rfl rfl rfl rfl (by rw [gz2]; omega) (by unfold maxLen; omega) (Nat.le_refl _) ?_; intro w3 hown hgrow)
  have hown1 := made_zeros hown
  have HB3 : Hid (Below w2.heap.size w2 w3) := (Below.refl _ _).grown hgrow (Nat.le_refl _) (fun k hk => by cases hk)
  obtain ⟨w4, cap4, hcv, hb4, hl4, hc4⟩ := conv_bytes w3 Tk
  have HO4 : Hid (w4.ownsRow w2.heap.size 3 1 (.slice (some ⟨w2.heap.size, 0, none⟩) 256 256) 256 ((Hf.up (Pr.tally (Tk.data.toList.take 0))).map Iv)) := by
    have e : Hf.up (Pr.tally []) = List.replicate 256 (0 : Int) := by decide
    rw [List.take_zero, e]
    exact row_below hown1 hb4
  have HC4 : Hid (∀ j (hj : j < Tk.size), w4.cell? ⟨w3.heap.size, j, none⟩ = some (.int .u8 (Tk[j].toNat : Int))) := hc4
  have HB4 : Hid (Below w2.heap.size w2 w4) := HB3.out.trans (hb4.mono HB3.out.size)
  have HL4 : Hid (w2.heap.size < w3.heap.size ∧ w3.heap.size < w4.heap.size) := ⟨by
    obtain ⟨cur, hc, _⟩ := own_block hown1 (g := w2.heap.size) rfl
    exact (Array.getElem?_eq_some_iff.1 hc).1, hl4⟩
  clear hown hgrow hown1 hb4 hl4 hc4 HB3
  rw [hcv]
  simp only [Result.andThen]
  rw [Oper.upon_value]
  clear hcv
  go_wp2_with fail
  go_loopw [31] (fun i wr => ∃ k : Nat, k ≤ Tk.size ∧ i = .int .i64 k ∧ Hid (wr.ownsRow w2.heap.size 3 1 (.slice (some ⟨w2.heap.size, 0, none⟩) 256 256) 256 ((Hf.up (Pr.tally (Tk.data.toList.take k))).map Iv)) ∧ Hid (Kept (fun q => q ≠ w2.heap.size) w4 wr)) (fun i _ => Tk.size - (intOf i).toNat)
  case atStart => exact ⟨0, by omega, rfl, HO4, Kept.refl _ _⟩
  case round =>
    obtain ⟨k, hk, rfl, hown, hkp⟩ := hrel
    by_cases hlt : k < Tk.size
    · have b0 := Tk[k].toNat_lt
      have c1 := (cell_kept hkp.out (show w3.heap.size < w4.heap.size from HL4.out.2) (show w3.heap.size ≠ w2.heap.size by have := HL4.out.1; omega) k).trans (HC4.out k hlt)
      have HTT : Hid (Pr.tally (Tk.data.toList.take (k + 1)) = (Pr.tally (Tk.data.toList.take k)).set Tk[k].toNat ((Pr.tally (Tk.data.toList.take k)).getD Tk[k].toNat 0 + 1)) := by
        show _ = _
        rw [take_snoc Tk k hlt, Pr.tally_snoc]
      have hle := Pr.tally_le (Tk.data.toList.take k)
      have hlen := Pr.tally_length (Tk.data.toList.take k)
      have hX := Hf.getD_le hle Tk[k].toNat
      have htl : (Tk.data.toList.take k).length ≤ k := List.length_take_le _ _
      have hown := hown.out
      generalize Tk[k] = a at *
      generalize Pr.tally (Tk.data.toList.take k) = F at *
      have c0 := own_at hown a.toNat (by rw [Hf.up_length, hlen]; exact b0)
      rw [Hf.up_get] at c0
      have f0 := hown.frozenAt a.toNat
      have HO := own_store hown a.toNat ((F.getD a.toNat 0 + 1 : Nat) : Int)
      rw [← Pr.up_set, ← HTT.out] at HO
      generalize F.getD a.toNat 0 = X at *
      have HO' : Hid ((wr.setCell ⟨w2.heap.size, a.toNat, none⟩ (.int .i64 ((X : Int) + 1))).ownsRow w2.heap.size 3 1 (.slice (some ⟨w2.heap.size, 0, none⟩) 256 256) 256 ((Hf.up (Pr.tally (Tk.data.toList.take (k + 1)))).map Iv)) := HO
      have HK2 : Hid (Kept (fun q => q ≠ w2.heap.size) w4 (wr.setCell ⟨w2.heap.size, a.toNat, none⟩ (.int .i64 ((X : Int) + 1)))) := hkp.out.setCell (by simp) _
      clear HO hown hkp hlen hle HTT
      go_wp2_with fail
      go_roundw
      case rel => exact ⟨k + 1, by omega, by go_num, HO', HK2⟩
      case measure => simp only [intOf]; omega
    · obtain rfl : k = Tk.size := by omega
      have hown := hown.out
      rw [List.take_of_length_le (by rw [← Lib.size_eq]; exact Nat.le_refl _), HT.out] at hown
      have HB5 : Hid (Below w.heap.size w wr) := HB2.out.trans ((HB4.out.trans (hkp.out.below HB4.out.size fun q hq => by omega)).mono HB2.out.size)
      have hF2 : (Pr.tally (Pr.T s.data.toList)).length = 256 := Pr.tally_length _
      have HF3 : Hid (∀ n ∈ Pr.tally (Pr.T s.data.toList), n ≤ 1048576) := fun n hn => by
        have := Pr.tally_le _ n hn
        have h2 : (Pr.T s.data.toList).length = Tk.size := by rw [← HT.out, ← Lib.size_eq]
        omega
      have HTH : Hid (∀ b ∈ Pr.T s.data.toList, 0 < (Pr.tally (Pr.T s.data.toList)).getD b.toNat 0) := fun b hb => Pr.tally_there hb
      have h4 := rlen_any (.slice (some ⟨w2.heap.size, 0, none⟩) 256 256) (Pr.tally (Pr.T s.data.toList)) wr (Ints.of_own (base := w2.heap.size) (by rw [Hf.up_length, hF2]; exact hown)) (by omega) (by omega) HF3.out
      clear hown hkp HB2 HB4 HO4 HC4 HL4
      go_wp2_with fail
      refine h4.mono ?_
      rintro e w5 ⟨v5, wide, rfl, HHL, hr5, hb5⟩
      clear h4
      have hw256 : wide.length = 256 := by rw [HHL.len]; exact hF2
      have hg := Pr.good_of HHL (by omega) HF3.out
      have h48 := HHL.le48 (by omega) HF3.out
      have HG : Hid (Pr.Good wide) := hg
      have HHL' : Hid (Hf.HL (Pr.tally (Pr.T s.data.toList)) wide) := HHL
      have HTW : Hid (∀ b ∈ Pr.T s.data.toList, 0 < wide.getD b.toNat 0) := fun b hb => (HHL.there (by omega) HF3.out _).1 (HTH.out b hb)
      rw [hF2] at hr5
      have HW : Hid (wide.length = 256) := hw256
      have hi5 : Ints w5 v5 (Hf.up wide) := Ints.of_own (base := wr.heap.size) (by rw [Hf.up_length, hw256]; exact hr5)
      have h5 := rcodes_any v5 wide w5 hi5 (by omega) (by omega) h48 hg.sum
      rw [hw256] at h5
      have HB6 : Hid (Below w.heap.size w w5) := HB5.out.trans (hb5.mono HB5.out.size)
      obtain ⟨g5, c5, rfl⟩ : ∃ g5 c5, v5 = .slice (some ⟨g5, 0, none⟩) 256 c5 := by
        rcases hr5.2 with ⟨_, h0⟩ | ⟨g, cap, _, hv, _⟩
        · omega
        · exact ⟨g, cap, hv⟩
      have H48 : Hid (∀ n ∈ wide, n ≤ 48) := h48
      have HR5 : Hid (w5.ownsRow wr.heap.size 3 1 (.slice (some ⟨g5, 0, none⟩) 256 c5) 256 ((Hf.up wide).map Iv)) := hr5
      clear HHL hg h48 hF2 HF3 HTH hi5 hb5 HB5 hr5
      clear hw256
      go_wp2_with fail
      refine h5.mono ?_
      rintro e w6 ⟨v6, rfl, hr6, hb6⟩
      clear h5
      obtain ⟨g6, c6, rfl⟩ : ∃ g6 c6, v6 = .slice (some ⟨g6, 0, none⟩) 256 c6 := by
        rcases hr6.2 with ⟨_, h0⟩ | ⟨g, cap, _, hv, _⟩
        · omega
        · exact ⟨g, cap, hv⟩
      have HB7 : Hid (Below w.heap.size w w6) := HB6.out.trans (hb6.mono HB6.out.size)
      have HR6 : Hid (w6.ownsRow w5.heap.size 3 1 (.slice (some ⟨g6, 0, none⟩) 256 c6) 256 ((Hf.codes wide).map Iv)) := hr6
      have HR56 : Hid (w6.ownsRow wr.heap.size 3 1 (.slice (some ⟨g5, 0, none⟩) 256 c5) 256 ((Hf.up wide).map Iv)) := row_below HR5.out hb6
      clear HR5 HB6 hr6 hb6
      go_wp2_with (at_make; refine wpList_make_full _ rfl (.const (.int .i64 256)) (.const (.int .i64 256)) 85 rfl w6.heap.size 9 k0 (.string ⟨#[]⟩) 1 Try.underlying85 ki kz0 kz1 .i64 .i64 _ _ 256 rfl rfl rfl rfl (by rw [kz2]; omega) (by unfold maxLen; omega) (Nat.le_refl _) ?_; intro w7 hown7 hgrow7)
      have hown7' := made_texts hown7
      have HO7 : Hid (w7.ownsRow w6.heap.size 9 1 (.slice (some ⟨w6.heap.size, 0, none⟩) 256 256) 256 (rowW fun i => if i < 0 then Pr.wS wide i else ⟨#[]⟩)) := by
        rw [show (rowW fun i => if i < 0 then Pr.wS wide i else ⟨#[]⟩) = rowW fun _ => ⟨#[]⟩ from rowW_congr fun i _ => if_neg (by omega)]
        exact hown7'
      have HB77 : Hid (Below w6.heap.size w6 w7) := (Below.refl _ _).grown hgrow7 (Nat.le_refl _) (fun k hk => by cases hk)
      clear hown7 hgrow7 hown7'
      go_wp2_with fail
      go_loopw [12, 13, 55] (fun hv mv i wx => ∃ (k : Nat) (H : ByteArray), k ≤ 256 ∧ i = .int .i64 k ∧ hv = .string H ∧ Hid (H.data.toList = Pr.headTo wide k) ∧ mv = .int .i64 (Pr.manyTo wide k : Nat) ∧ Hid (wx.ownsRow w6.heap.size 9 1 (.slice (some ⟨w6.heap.size, 0, none⟩) 256 256) 256 (rowW fun i => if i < k then Pr.wS wide i else ⟨#[]⟩)) ∧ Hid (Below w6.heap.size w6 wx)) (fun _ _ i _ => 256 - (intOf i).toNat)
      case atStart => exact ⟨0, ⟨#[]⟩, by omega, rfl, rfl, rfl, rfl, HO7, HB77⟩
      case round =>
        clear HO7 HB77
        obtain ⟨k, H, hk, rfl, rfl, hH, rfl, hrow, hbel⟩ := hrel
        by_cases hlt2 : k < 256
        · have hk5 := own_kept HR56.out (Kept.of_below_at (p := fun k => k < w6.heap.size) hbel.out fun _ h => h) fun g hg => by
            obtain ⟨cur, hc, _⟩ := own_block HR56.out hg
            exact (Array.getElem?_eq_some_iff.1 hc).1
          have hk6 := own_kept HR6.out (Kept.of_below_at (p := fun k => k < w6.heap.size) hbel.out fun _ h => h) fun g hg => by
            obtain ⟨cur, hc, _⟩ := own_block HR6.out hg
            exact (Array.getElem?_eq_some_iff.1 hc).1
          have c5' := own_at hk5 k (by rw [Hf.up_length, HW.out]; exact hlt2)
          rw [Hf.up_get] at c5'
          have c6' := own_at hk6 k (by rw [Hf.codes_length, HW.out]; exact hlt2)
          have hcd : (Hf.codes wide)[k]'(by rw [Hf.codes_length, HW.out]; exact hlt2) = (Hf.code wide k : Nat) := by simp [Hf.codes]
          rw [hcd] at c6'
          have hl48 := Hf.getD_le H48.out k
          have hmt := Pr.manyTo_le wide k
          have HM : Hid (Pr.manyTo wide (k + 1) = if 0 < wide.getD k 0 then Pr.manyTo wide k + 1 else Pr.manyTo wide k) := rfl
          have HHD : Hid (Pr.headTo wide (k + 1) = if 0 < wide.getD k 0 then Pr.headTo wide k ++ [UInt8.ofNat k, UInt8.ofNat (wide.getD k 0)] else Pr.headTo wide k) := rfl
          clear hcd hk5 hk6
          by_cases hn : 0 < wide.getD k 0
          · have hcl : Hf.code wide k ≤ 281474976710656 := by
              rw [Hf.code_nxt]
              exact Hf.nxt_bound hl48 HG.out.sum
            have hbits := bits_any (wide.getD k 0) (Hf.code wide k) wr hcl hl48
            have hWS : (⟨(Pr.sb (Pr.wd (Hf.code wide k) (wide.getD k 0))).toArray⟩ : ByteArray) = Pr.wS wide k := rfl
            rw [hWS] at hbits
            have HM2 : Hid (Pr.manyTo wide (k + 1) = Pr.manyTo wide k + 1) := by show _ = _; rw [HM.out, if_pos hn]
            have HHD2 : Hid (Pr.headTo wide (k + 1) = Pr.headTo wide k ++ [UInt8.ofNat k, UInt8.ofNat (wide.getD k 0)]) := by show _ = _; rw [HHD.out, if_pos hn]
            generalize wide.getD k 0 = n at *
            generalize Hf.code wide k = cc at *
            clear HM HHD hWS
            go_wp2_with fail
            refine hbits.mono ?_
            rintro e w8 ⟨rfl, hb8⟩
            have hrow8 := row_below hrow.out hb8
            have f0 := hrow8.frozenAt k
            have f1 := own_text hrow8 k hlt2
            have HRS := store_text hrow8 k (Pr.wS wide k)
            have HRS' : Hid ((w8.setCell ⟨w6.heap.size, k, none⟩ (.string (Pr.wS wide k))).ownsRow w6.heap.size 9 1 (.slice (some ⟨w6.heap.size, 0, none⟩) 256 256) 256 (rowW fun i => if i < k + 1 then Pr.wS wide i else ⟨#[]⟩)) := by
              rw [show (rowW fun i => if i < k + 1 then Pr.wS wide i else ⟨#[]⟩) = rowW fun j => if j = k then Pr.wS wide k else if j < k then Pr.wS wide j else ⟨#[]⟩ from rowW_congr fun i _ => by
                by_cases e : i = k
                · subst e; rw [if_pos (by omega), if_pos rfl]
                · rw [if_neg e]
                  by_cases e2 : i < k
                  · rw [if_pos e2, if_pos (by omega)]
                  · rw [if_neg e2, if_neg (by omega)]]
              exact HRS
            have hB8 : Below w6.heap.size w6 w8 := hbel.out.trans (hb8.mono hbel.out.size)
            have HB8 : Hid (Below w6.heap.size w6 (w8.setCell ⟨w6.heap.size, k, none⟩ (.string (Pr.wS wide k)))) := hB8.setCell (Nat.le_refl _) _
            have hs8 := hB8.size
            have hst0 : ∀ W : World, (convert 51 9 (.slice (some ⟨W.heap.size, 0, none⟩) 2 2)).run Try.prog (W.alloc (.cells #[.int .u8 (k : Int), .int .u8 (n : Int)] 5)) = .ok (.string ⟨#[UInt8.ofNat k, UInt8.ofNat n]⟩) (W.alloc (.cells #[.int .u8 (k : Int), .int .u8 (n : Int)] 5)) := fun W => by
              have h := str_two W (UInt8.ofNat k) (UInt8.ofNat n)
              rw [UInt8.toNat_ofNat', UInt8.toNat_ofNat', Nat.mod_eq_of_lt (by omega), Nat.mod_eq_of_lt (by omega)] at h
              exact h
            have hHl : H.data.toList.length ≤ 512 := by rw [hH.out]; have := Pr.headTo_len wide k; omega
            have hcat := cat_bytes H [UInt8.ofNat k, UInt8.ofNat n] (by omega) (by simp)
            obtain ⟨H2, hH2⟩ : ∃ H2 : ByteArray, H2 = ⟨(H.data.toList ++ [UInt8.ofNat k, UInt8.ofNat n]).toArray⟩ := ⟨_, rfl⟩
            rw [← hH2] at hcat
            have HH2 : Hid (H2.data.toList = Pr.headTo wide (k + 1)) := by show _ = _; rw [hH2, HHD2.out, ← hH.out]
            have hk8 : IntKind.u8.wrap (k : Int) = (k : Int) := by simp only [IntKind.wrap, IntKind.bits, IntKind.signed]; simp; omega
            have hn8 : IntKind.u8.wrap (n : Int) = (n : Int) := by simp only [IntKind.wrap, IntKind.bits, IntKind.signed]; simp; omega
            have hst := hst0 (w8.setCell ⟨w6.heap.size, k, none⟩ (.string (Pr.wS wide k)))
            rw [show (w8.setCell ⟨w6.heap.size, k, none⟩ (.string (Pr.wS wide k))).heap.size = w8.heap.size by simp] at hst
            generalize Pr.wS wide k = wk at *
            clear hst0 hbits hb8 hrow hbel hrow8 HRS hB8 hH2 c5' c6' hH
            go_wp2_with fail
            go_roundw
            case rel => exact ⟨k + 1, H2, by omega, by go_num, rfl, HH2, by rw [HM2.out]; go_num, row_below HRS'.out ((Below.refl _ _).alloc (Nat.le_refl _) _), HB8.out.alloc (by simp; omega) _⟩
            case measure => simp only [intOf]; omega
          · have HM2 : Hid (Pr.manyTo wide (k + 1) = Pr.manyTo wide k) := by show _ = _; rw [HM.out, if_neg hn]
            have HHD2 : Hid (H.data.toList = Pr.headTo wide (k + 1)) := by show _ = _; rw [HHD.out, if_neg hn]; exact hH.out
            have HRS : Hid (wr.ownsRow w6.heap.size 9 1 (.slice (some ⟨w6.heap.size, 0, none⟩) 256 256) 256 (rowW fun i => if i < k + 1 then Pr.wS wide i else ⟨#[]⟩)) := by
              rw [show (rowW fun i => if i < k + 1 then Pr.wS wide i else ⟨#[]⟩) = rowW fun i => if i < k then Pr.wS wide i else ⟨#[]⟩ from rowW_congr fun i _ => by
                by_cases e2 : i < k
                · rw [if_pos e2, if_pos (by omega)]
                · rw [if_neg e2]
                  by_cases e : i < k + 1
                  · rw [if_pos e, show i = k by omega]; exact Pr.wS_none (by omega)
                  · rw [if_neg e]]
              exact hrow
            generalize wide.getD k 0 = n at *
            clear HM HHD hrow c6'
            go_wp2_with fail
            go_roundw
            case rel => exact ⟨k + 1, H, by omega, by go_num, rfl, HHD2, by rw [HM2.out], HRS, hbel⟩
            case measure => simp only [intOf]; omega
        · obtain rfl : k = 256 := by omega
          have hrowW : wr.ownsRow w6.heap.size 9 1 (.slice (some ⟨w6.heap.size, 0, none⟩) 256 256) 256 (rowW (Pr.wS wide)) := by
            rw [show rowW (Pr.wS wide) = (rowW fun i => if i < 256 then Pr.wS wide i else ⟨#[]⟩) from rowW_congr fun i hi => (if_pos hi).symm]
            exact hrow.out
          obtain ⟨W8, hW8⟩ : ∃ W8, W8 = wr.alloc (.cells #[.pointer none, .slice none 0 0] 89) := ⟨_, rfl⟩
          have hb8 : Below wr.heap.size wr W8 := by rw [hW8]; exact (Below.refl _ wr).alloc (Nat.le_refl _) _
          have hz8 : W8.heap.size = wr.heap.size + 1 := by rw [hW8]; simp
          obtain ⟨W9, cap9, hcv, hb9, hl9, hc9⟩ := conv_bytes W8 Tk
          have HBL : Hid (Bld W9 W9.heap.size wr.heap.size (Pr.sb (Pr.words wide ((Pr.dnB Tk.data.toList).take 0)))) := Bld.new wr W9 (by rw [← hW8]; exact hb9)
          have hb89 : Below wr.heap.size wr W9 := hb8.trans (hb9.mono (by omega))
          have HRW9 : Hid (W9.ownsRow w6.heap.size 9 1 (.slice (some ⟨w6.heap.size, 0, none⟩) 256 256) 256 (rowW (Pr.wS wide))) := row_below hrowW hb89
          have HB9 : Hid (Below w.heap.size w W9) := HB7.out.trans ((hbel.out.trans (hb89.mono hbel.out.size)).mono HB7.out.size)
          have HC9 : Hid (∀ j (hj : j < Tk.size), W9.cell? ⟨W8.heap.size, j, none⟩ = some (.int .u8 (Tk[j].toNat : Int))) := hc9
          have HL9 : Hid (w6.heap.size < wr.heap.size ∧ W8.heap.size = wr.heap.size + 1 ∧ W8.heap.size < W9.heap.size ∧ w.heap.size ≤ wr.heap.size) := by
            refine ⟨?_, hz8, hl9, ?_⟩
            · obtain ⟨cur, hc, _⟩ := own_block hrowW (g := w6.heap.size) rfl
              exact (Array.getElem?_eq_some_iff.1 hc).1
            · have h1 := HB7.out.size
              have h2 := hbel.out.size
              omega
          have HWL : Hid (∀ k, (Pr.words wide ((Pr.dnB Tk.data.toList).take k)).length ≤ 589824) := fun k => by
            have h1 := Pr.words_le (Hf.getD_le H48.out) ((Pr.dnB Tk.data.toList).take k)
            have h2 : ((Pr.dnB Tk.data.toList).take k).length ≤ (Pr.dnB Tk.data.toList).length := List.length_take_le' _ _
            have h3 : (Pr.dnB Tk.data.toList).length = Tk.size := by unfold Pr.dnB; rw [List.length_map, ← Lib.size_eq]
            omega
          clear hrow hrowW hb8 hb9 hl9 hc9 hb89 hbel HR6 HR56 HB7 hz8
          go_wp2_with fail
          rw [← hW8, hcv]
          simp only [Result.andThen]
          rw [Oper.upon_value]
          clear hcv
          clear hW8
          go_wp2_with fail
          generalize wr.heap.size = bb at *
          go_loopw [85] (fun i wx => ∃ k : Nat, k ≤ Tk.size ∧ i = .int .i64 k ∧ Hid (Bld wx W9.heap.size bb (Pr.sb (Pr.words wide ((Pr.dnB Tk.data.toList).take k)))) ∧ Hid (Kept (fun q => q ≠ bb ∧ q < W9.heap.size) W9 wx)) (fun i _ => Tk.size - (intOf i).toNat)
          case atStart => exact ⟨0, by omega, rfl, HBL, Kept.refl _ _⟩
          case round =>
            clear HBL
            obtain ⟨k, hk, rfl, hbl, hkp⟩ := hrel
            by_cases hlt : k < Tk.size
            · have hb256 := Tk[k].toNat_lt
              have cB := (cell_kept hkp.out HL9.out.2.2.1 (by have := HL9.out; omega) k).trans (HC9.out k hlt)
              have hrw := own_kept HRW9.out hkp.out fun g hg => by
                have e : w6.heap.size = g := by simpa [Value.ownBlock] using hg
                have := HL9.out
                omega
              have hsn : (Pr.dnB Tk.data.toList).take (k + 1) = (Pr.dnB Tk.data.toList).take k ++ [Tk[k].toNat] := by
                unfold Pr.dnB
                rw [← List.map_take, ← List.map_take, take_snoc Tk k hlt, List.map_append]
                rfl
              have HN : Hid (Pr.sb (Pr.words wide ((Pr.dnB Tk.data.toList).take (k + 1))) = Pr.sb (Pr.words wide ((Pr.dnB Tk.data.toList).take k)) ++ (Pr.wS wide Tk[k].toNat).data.toList) := by
                show _ = _
                rw [hsn, Pr.words_snoc, Pr.sb_append, Pr.wS_list]
              have hwl := HWL.out k
              have hl48 := Hf.getD_le H48.out Tk[k].toNat
              have hws := Pr.wS_size wide Tk[k].toNat
              have hsk := hkp.out.size
              generalize Tk[k] = b at *
              have cW := own_text hrw b.toNat hb256
              have hw := wstr_any W9.heap.size bb (Pr.sb (Pr.words wide ((Pr.dnB Tk.data.toList).take k))) (Pr.wS wide b.toNat) wr hbl.out (by rw [Pr.sb_length, hws]; omega) hsk
              rw [← HN.out] at hw
              generalize Pr.wS wide b.toNat = wb at *
              clear hsn hwl hws hrw HN hbl
              go_wp2_with fail
              refine hw.mono ?_
              rintro e w10 ⟨rfl, hbl2, hkp2⟩
              have HB2 : Hid (Bld w10 W9.heap.size bb (Pr.sb (Pr.words wide ((Pr.dnB Tk.data.toList).take (k + 1))))) := hbl2
              have HK2 : Hid (Kept (fun q => q ≠ bb ∧ q < W9.heap.size) W9 w10) := hkp.out.trans hkp2
              clear hw hbl2 hkp2 hkp cW cB
              go_wp2_with fail
              go_roundw
              case rel => exact ⟨k + 1, by omega, by go_num, HB2, HK2⟩
              case measure => simp only [intOf]; omega
            · obtain rfl : k = Tk.size := by omega
              have hbl := hbl.out
              rw [List.take_of_length_le (by unfold Pr.dnB; rw [List.length_map, ← Lib.size_eq]; exact Nat.le_refl _)] at hbl
              have hwl := HWL.out Tk.size
              rw [List.take_of_length_le (by unfold Pr.dnB; rw [List.length_map, ← Lib.size_eq]; exact Nat.le_refl _)] at hwl
              have hst := bstr_any W9.heap.size bb _ wr hbl hkp.out.size
              have HB10 : Hid (Below w.heap.size w wr) := HB9.out.trans (hkp.out.below HB9.out.size fun q hq => by have := HL9.out; omega)
              obtain ⟨BT, hBT⟩ : ∃ BT, Pr.words wide (Pr.dnB Tk.data.toList) = BT := ⟨_, rfl⟩
              have HBT : Hid (Pr.words wide (Pr.dnB Tk.data.toList) = BT) := hBT
              rw [hBT] at hst hwl
              obtain ⟨S1, hS1⟩ : ∃ S1 : ByteArray, S1 = ⟨(Pr.sb BT).toArray⟩ := ⟨_, rfl⟩
              rw [← hS1] at hst
              have HS1 : Hid (S1.data.toList = Pr.sb BT) := by rw [hS1]; exact rfl
              have HS1z : Hid (S1.size = BT.length) := by show _ = _; rw [Lib.size_eq, HS1.out, Pr.sb_length]
              have hS1z : S1.size ≤ 589824 := by rw [HS1z.out]; exact hwl
              clear hbl hkp hBT hS1 HRW9 HB9 HC9 HWL
              go_wp2_with fail
              refine hst.mono ?_
              rintro e w11 ⟨rfl, hb11⟩
              have HB11 : Hid (Below w.heap.size w w11) := HB10.out.trans (hb11.mono HL9.out.2.2.2)
              clear hst hb11 HB10 HL9
              obtain ⟨z, hz⟩ : ∃ z, (8 - BT.length % 8) % 8 = z := ⟨_, rfl⟩
              have hz8 : z < 8 := by omega
              have hzi : (-((S1.size : Int) % 8) % 8) = (z : Int) := by rw [HS1z.out]; omega
              have hrep := Try.strings_Repeat ⟨#[48]⟩ z w11 (by omega) (by show 1 * z ≤ _; omega)
              have hrl : Lib.repeatL (⟨#[48]⟩ : ByteArray).data.toList z = Pr.sb (Pr.zs BT.length) := by
                unfold Pr.zs Pr.sb
                rw [hz]
                exact repeat_zero z
              rw [hrl] at hrep
              obtain ⟨R2, hR2⟩ : ∃ R2 : ByteArray, R2 = ⟨(Pr.sb (Pr.zs BT.length)).toArray⟩ := ⟨_, rfl⟩
              have HAL : Hid ((BT ++ Pr.zs BT.length).length = 8 * ((BT.length + 7) / 8)) := by show _ = _; rw [List.length_append, Pr.zs_length]; omega
              have hcat := cat_bytes S1 (Pr.sb (Pr.zs BT.length)) (by rw [← Lib.size_eq]; omega) (by rw [Pr.sb_length, Pr.zs_length]; omega)
              obtain ⟨S2, hS2⟩ : ∃ S2 : ByteArray, S2 = ⟨(S1.data.toList ++ Pr.sb (Pr.zs BT.length)).toArray⟩ := ⟨_, rfl⟩
              rw [← hS2, ← hR2] at hcat
              rw [← hR2] at hrep
              have HBY : Hid (Pr.bytesN ((BT.length + 7) / 8) (BT ++ Pr.zs BT.length) = Pr.bytes BT) := rfl
              have HS2 : Hid (S2.data.toList = Pr.sb ((BT ++ Pr.zs BT.length).drop (8 * 0))) := by
                show _ = _
                rw [Nat.mul_zero, List.drop_zero, Pr.sb_append, ← HS1.out, hS2]
              have hK : (BT.length + 7) / 8 ≤ 80000 := by omega
              generalize BT ++ Pr.zs BT.length = AB at *
              generalize (BT.length + 7) / 8 = K at *
              clear hrl hR2 hS2 HS1 HS1z hwl hz
              go_wp2_with fail
              refine hrep.mono ?_
              rintro e w12 ⟨rfl, hb12⟩
              have HB12 : Hid (Below w.heap.size w w12) := HB11.out.trans (hb12.mono HB11.out.size)
              clear hrep hb12 HB11 hzi
              go_wp2_with fail
              generalize hbw : w12.heap.size = bw at *
              go_loopw [19, 20] (fun sv ov wx => ∃ (k : Nat) (S : ByteArray), k ≤ K ∧ sv = .string S ∧ Hid (S.data.toList = Pr.sb (AB.drop (8 * k))) ∧ wx.ownsRow bw 5 1 ov (Pr.upB (Pr.bytesN k AB)).length ((Pr.upB (Pr.bytesN k AB)).map B) ∧ Hid (Below bw w12 wx)) (fun sv _ _ => strSz sv)
              case atStart => exact ⟨0, S2, by omega, rfl, HS2, World.ownsRow_nil _ _ _ _, Below.refl _ _⟩
              case round =>
                obtain ⟨k, S, hk, rfl, hS, hown, hbel⟩ := hrel
                have HSz : Hid (S.size = 8 * (K - k)) := by show _ = _; rw [Lib.size_eq, hS.out, Pr.sb_length, List.length_drop, HAL.out]; omega
                obtain ⟨a20, c20, rfl⟩ := own_form hown
                have hob : (Pr.upB (Pr.bytesN k AB)).length ≤ 80000 := by rw [upB_length, Pr.bytesN_length]; omega
                by_cases hlt : k < K
                · have hS8' : 8 ≤ S.size := by rw [HSz.out]; omega
                  have hS8i : (8 : Int) ≤ (S.size : Int) := by omega
                  obtain ⟨S8, hS8⟩ : ∃ S8, S.extract 0 8 = S8 := ⟨_, rfl⟩
                  have HS8 : Hid (S8.data.toList = Pr.sb ((AB.drop (8 * k)).take 8)) := by
                    show _ = _
                    rw [← hS8, Lib.extract_data, List.drop_zero, hS.out]
                    simp [Pr.sb, List.map_take]
                  have hne : S.toList.isEmpty = false := by
                    rw [Lib.toList_data, List.isEmpty_eq_false_iff]
                    intro e
                    have h := Lib.size_eq S
                    rw [e, List.length_nil] at h
                    omega
                  have HS8z : Hid (S8.size = 8) := by show _ = _; rw [← hS8, ByteArray.size_extract]; omega
                  have HNX : Hid ((S.extract 8 S.size).data.toList = Pr.sb (AB.drop (8 * (k + 1)))) := by
                    show _ = _
                    rw [ext_toList, hS.out, show 8 * (k + 1) = 8 * k + 8 by omega, ← List.drop_drop]
                    simp [Pr.sb, List.map_drop]
                  have HNZ : Hid ((S.extract 8 S.size).size < S.size) := by show _ < _; rw [ByteArray.size_extract]; omega
                  have HBN : Hid (Pr.bytesN (k + 1) AB = Pr.bytesN k AB ++ [Pr.val ((AB.drop (8 * k)).take 8)]) := Pr.bytesN_snoc k AB
                  have HQL : Hid (((AB.drop (8 * k)).take 8).length = 8) := by show _ = _; rw [List.length_take, List.length_drop, HAL.out]; omega
                  generalize (AB.drop (8 * k)).take 8 = Q at *
                  obtain ⟨W5, cap5, hcv, hb5, hl5, hc5⟩ := conv_bytes wr S8
                  rw [HS8z.out] at hcv
                  have HC5 : Hid (∀ j, j < 8 → ∃ q : Nat, q < 2 ∧ W5.cell? ⟨wr.heap.size, j, none⟩ = some (.int .u8 (48 + (q : Int))) ∧ Pr.val (Q.take (j + 1)) = 2 * Pr.val (Q.take j) + q) := fun j hj => by
                    have h1 := hc5 j (by rw [HS8z.out]; exact hj)
                    have h2 := byte_get S8 j (by rw [HS8z.out]; exact hj)
                    rw [HS8.out] at h2
                    unfold Pr.sb at h2
                    have hq : j < Q.length := by rw [HQL.out]; exact hj
                    rw [List.getElem?_map, List.getElem?_eq_getElem hq] at h2
                    have h2 : (if Q[j] = true then (49 : UInt8) else 48) = S8[j]'(by rw [HS8z.out]; exact hj) := by simpa using h2
                    refine ⟨if Q[j] = true then 1 else 0, by split <;> omega, ?_, Pr.val_take hq⟩
                    rw [h1, ← h2]
                    cases Q[j] <;> rfl
                  have HO5 : Hid (W5.ownsRow bw 5 1 (.slice a20 (Pr.upB (Pr.bytesN k AB)).length c20) (Pr.upB (Pr.bytesN k AB)).length ((Pr.upB (Pr.bytesN k AB)).map B)) := row_below hown hb5
                  have hB5 : Below bw w12 W5 := hbel.out.trans (hb5.mono (by have := hbel.out.size; omega))
                  have HB5 : Hid (Below bw w12 W5) := hB5
                  have HW5 : Hid (bw ≤ W5.heap.size) := by show _ ≤ _; have := hB5.size; omega
                  clear hc5 hown hbel hb5 hl5 hS hB5
                  go_wp2_with fail
                  clear hcv
                  generalize wr.heap.size = b5 at *
                  go_loop [21, 112] (fun nv i => ∃ j : Nat, j ≤ 8 ∧ i = .int .i64 j ∧ nv = .int .i64 (Pr.val (Q.take j) : Nat)) (fun _ i => 8 - (intOf i).toNat)
                  case atStart => exact ⟨0, by omega, rfl, rfl⟩
                  case round =>
                    obtain ⟨j, hj, rfl, rfl⟩ := hrel
                    have hv := Pr.val_take_lt Q j
                    have hv2 : Pr.val (Q.take j) < 256 := Nat.lt_of_lt_of_le hv (Nat.pow_le_pow_right (by omega : 2 > 0) hj)
                    clear hv
                    by_cases hlt8 : j < 8
                    · obtain ⟨q, hq2, hc, hvn⟩ := HC5.out j hlt8
                      have HVN : Hid (Pr.val (Q.take (j + 1)) = 2 * Pr.val (Q.take j) + q) := hvn
                      clear hvn
                      generalize Pr.val (Q.take j) = V at *
                      go_wp2_with fail
                      go_round
                      case rel => exact ⟨j + 1, by omega, by go_num, by rw [HVN.out]; go_num⟩
                      case measure => simp only [intOf]; omega
                    · obtain rfl : j = 8 := by omega
                      have HV8 : Hid (Pr.val (Q.take 8) = Pr.val Q) := by show _ = _; rw [List.take_of_length_le (by rw [HQL.out]; exact Nat.le_refl _)]
                      have hrow5 := HO5.out
                      have hw5 := HW5.out
                      have HY : Hid (Pr.upB (Pr.bytesN (k + 1) AB) = Pr.upB (Pr.bytesN k AB) ++ [UInt8.ofNat (Pr.val (Q.take 8))]) := by show _ = _; rw [HBN.out, up_more, HV8.out]
                      generalize Pr.upB (Pr.bytesN k AB) = Z at *
                      generalize Pr.val (Q.take 8) = V at *
                      have hV8 : IntKind.u8.wrap (V : Int) = (V : Int) := by simp only [IntKind.wrap, IntKind.bits, IntKind.signed]; simp; omega
                      go_wp2_with (at_builtin; refine wpList_append_own _ rfl (.tmp 123) (.tmp 126) 51 rfl bw 5 i0 (.int .u8 0) 1 1 Try.underlying51 hi hz0 hz1 hz2 rfl (by decide) _ _ _ rfl (hrow5.alloc _) ⟨W5.heap.size, 0, none⟩ 1 1 [.int .u8 (V : Int)] rfl rfl ?p1 ?p2 ?p3 ?p4 ?p5 ?_)
                      case p2 => rfl
                      case p3 => unfold maxLen; omega
                      case p4 => omega
                      case p5 => omega
                      intro v6 w6x hown6 hgrow6 _
                      have HO6 : Hid (w6x.ownsRow bw 5 1 v6 (Pr.upB (Pr.bytesN (k + 1) AB)).length ((Pr.upB (Pr.bytesN (k + 1) AB)).map B)) := by
                        show w6x.ownsRow _ _ _ _ _ _
                        rw [HY.out]
                        refine own_byte ?_
                        rw [UInt8.toNat_ofNat', Nat.mod_eq_of_lt hv2]
                        exact hown6
                      have HB6 : Hid (Below bw w12 w6x) := (HB5.out.alloc (by omega) _).grown hgrow6 (by simp; omega) fun j hj => (hrow5.lt j hj).1
                      clear hown6 hgrow6 hrow5
                      go_wp2_with fail
                      exact ⟨⟨k + 1, S.extract 8 S.size, by omega, rfl, HNX, HO6.out, HB6⟩, HNZ.out⟩
                · obtain rfl : k = K := by omega
                  have hne : S.toList.isEmpty = true := by
                    have h1 : S.size = 0 := by rw [HSz.out]; omega
                    have h := Lib.size_eq S
                    rw [h1] at h
                    rw [Lib.toList_data, List.length_eq_zero_iff.1 h.symm]
                    rfl
                  have hB13 : Below w.heap.size w wr := HB12.out.trans (hbel.out.mono (by have := HB12.out.size; omega))
                  have HB13 : Hid (Below w.heap.size w wr) := hB13
                  clear hbel hB13 HB12 HAL
                  have hzs := HB13.out.size
                  have hmt := Pr.manyTo_le wide 256
                  obtain ⟨P1, hP1⟩ : ∃ P1 : ByteArray, P1 = ⟨(Nm.put s.size).toArray⟩ := ⟨_, rfl⟩
                  obtain ⟨P2, hP2⟩ : ∃ P2 : ByteArray, P2 = ⟨(Nm.put Tk.size).toArray⟩ := ⟨_, rfl⟩
                  obtain ⟨P3, hP3⟩ : ∃ P3 : ByteArray, P3 = ⟨(Nm.put (Pr.manyTo wide 256)).toArray⟩ := ⟨_, rfl⟩
                  obtain ⟨OT, hOT⟩ : ∃ OT : ByteArray, OT = ⟨(Pr.upB (Pr.bytesN k AB)).toArray⟩ := ⟨_, rfl⟩
                  have hq1 := fun W => rput_any s.size W (by omega) (by omega)
                  have hq2 := fun W => rput_any Tk.size W (by omega) (by omega)
                  have hq3 := fun W => rput_any (Pr.manyTo wide 256 : Nat) W (by omega) (by omega)
                  rw [Int.toNat_natCast, ← hP1] at hq1
                  rw [Int.toNat_natCast, ← hP2] at hq2
                  rw [Int.toNat_natCast, ← hP3] at hq3
                  have l1 : P1.data.toList = Nm.put s.size := by rw [hP1]
                  have l2 : P2.data.toList = Nm.put Tk.size := by rw [hP2]
                  have l3 : P3.data.toList = Nm.put (Pr.manyTo wide 256) := by rw [hP3]
                  have l4 : OT.data.toList = Pr.upB (Pr.bytesN k AB) := by rw [hOT]
                  have b1 := Pr.put_len s.size
                  have b2 := Pr.put_len Tk.size
                  have b3 := Pr.put_len (Pr.manyTo wide 256)
                  have b4 := Pr.headTo_len wide 256
                  have hstr : ∀ X : Since wr.heap.size wr, (convert 51 9 (.slice a20 (Pr.upB (Pr.bytesN k AB)).length c20)).run Try.prog X.val = .ok (.string OT) X.val := fun X => by
                    rw [hOT]
                    exact run_str (row_below hown X.property)
                  obtain ⟨A1, la1, r1⟩ := cat_two ⟨#[1]⟩ P1 (by simp) (by rw [l1]; omega)
                  obtain ⟨A2, la2, r2⟩ := cat_two A1 P2 (by rw [la1, l1, List.length_append]; simp; omega) (by rw [l2]; omega)
                  obtain ⟨A3, la3, r3⟩ := cat_two A2 P3 (by rw [la2, la1, l1, l2, List.length_append, List.length_append]; simp; omega) (by rw [l3]; omega)
                  obtain ⟨A4, la4, r4⟩ := cat_two A3 H (by rw [la3, la2, la1, l1, l2, l3, List.length_append, List.length_append, List.length_append]; simp; omega) (by rw [hH.out]; omega)
                  obtain ⟨A5, la5, r5⟩ := cat_two A4 OT (by rw [la4, la3, la2, la1, l1, l2, l3, hH.out, List.length_append, List.length_append, List.length_append, List.length_append]; simp; omega) (by rw [l4]; omega)
                  have HFIN : Hid (A5.data.toList = Pr.cod s.data.toList wide) := by
                    show _ = _
                    rw [la5, la4, la3, la2, la1, l1, l2, l3, l4, hH.out, Pr.cod_hdr, Pr.headTo_all, Pr.manyTo_all, ← HT.out, HBT.out, HBY.out]
                    unfold Pr.hdr
                    rw [← HT.out, ← Lib.size_eq, ← Lib.size_eq]
                    simp only [List.append_assoc]
                  clear la1 la2 la3 la4 la5 l1 l2 l3 l4 b1 b2 b3 b4 hP1 hP2 hP3 hOT hown HBT HBY hH hS HSz HG H48 HTW HT
                  have hne2 : Nonempty (Since wr.heap.size wr) := ⟨⟨wr, Below.refl _ _⟩⟩
                  generalize (Pr.upB (Pr.bytesN k AB)).length = ol at *
                  generalize Pr.manyTo wide 256 = M at *
                  go_wp2_with fail
                  refine wp_region_since (B := wr.heap.size) (W0 := wr) (by kernel_rfl) (by kernel_rfl) (Below.refl _ _) ?_
                  repeat (go_big_quiet_step (fail))
                  go_big_quiet_step (exact quiet_since _ (hq1 _))
                  repeat (go_big_quiet_step (fail))
                  go_big_quiet_step (exact quiet_since _ (hq2 _))
                  repeat (go_big_quiet_step (fail))
                  go_big_quiet_step (exact quiet_since _ (hq3 _))
                  repeat (go_big_quiet_step (fail))
                  refine wpQuiet_nil ?_
                  rintro w14 ⟨Y, rfl⟩
                  have HY : Hid (Below w.heap.size w Y.val) := HB13.out.trans (Y.property.mono hzs)
                  generalize Y.val = w15 at *
                  clear hstr hq1 hq2 hq3 r1 r2 r3 r4 r5
                  go_wp2_with fail
                  go_ret
                  exact ⟨wide, A5, rfl, HFIN.out, HHL'.out, HY.out⟩
end Go.Proofs.Ytkhejelmjkpgfaa

namespace Go.Proofs.Ytkhejelmjkpgfaa
open Go.RowKit
set_option maxRecDepth 4000

set_option maxHeartbeats 400000 in
theorem rpress_large (s : ByteArray) (w : World) (hs : 4096 < s.size) (_h : s.size ≤ 140737488351232) :
    Calls Try.prog 32 #[.string s] w fun e w' => e = .returned (.tuple #[.string ⟨#[]⟩, .int .i64 2]) ∧ w' = w := by
  go_enter Try.func32, Try.ntmps32
  go_wp2_with fail
  go_ret2
  exact ⟨rfl, rfl⟩

set_option maxHeartbeats 1000000 in
theorem rpress_any (s : ByteArray) (w : World) (hs : s.size ≤ 4096) :
    Calls Try.prog 32 #[.string s] w fun e w' => ∃ (wide : List Nat) (s' : ByteArray), e = .returned (.tuple #[.string s', .int .i64 0]) ∧ s'.data.toList = (Pr.pr s.data.toList wide).1 ∧ Hf.HL (Pr.tally (Pr.T s.data.toList)) wide ∧ Below w.heap.size w w' := by
  have h2 := rcoded_any s w hs
  obtain ⟨Pl, hPl, hcat⟩ := cat_two ⟨#[0]⟩ s (by simp) (by rw [← Lib.size_eq]; omega)
  have HP : Hid (Pl.data.toList = 0 :: s.data.toList) := hPl
  clear hPl
  go_enter Try.func32, Try.ntmps32
  go_wp2_with fail
  refine h2.mono ?_
  rintro e w2 ⟨wide, s2, rfl, hs2, hHL, hb2⟩
  have HB2 : Hid (Below w.heap.size w w2) := hb2
  have HL : Hid (Hf.HL (Pr.tally (Pr.T s.data.toList)) wide) := hHL
  have hz : s2.size = (Pr.cod s.data.toList wide).length := by rw [Lib.size_eq, hs2]
  have HR : Hid ((Pr.pr s.data.toList wide).1 = if s2.size ≤ s.size then Pr.cod s.data.toList wide else 0 :: s.data.toList) := by
    show _ = _
    unfold Pr.pr
    rw [if_neg (by rw [← Lib.size_eq]; omega), ← Lib.size_eq, hz]
    split <;> rfl
  have HS2 : Hid (s2.data.toList = Pr.cod s.data.toList wide) := hs2
  clear h2 hb2 hHL hz hs2
  by_cases hlt : s2.size ≤ s.size
  · have HR2 : Hid ((Pr.pr s.data.toList wide).1 = Pr.cod s.data.toList wide) := by show _ = _; rw [HR.out, if_pos hlt]
    clear HR
    go_wp2_with fail
    go_ret2
    exact ⟨wide, s2, rfl, by rw [HR2.out]; exact HS2.out, HL.out, HB2.out⟩
  · have HR2 : Hid ((Pr.pr s.data.toList wide).1 = 0 :: s.data.toList) := by show _ = _; rw [HR.out, if_neg hlt]
    clear HR
    go_wp2_with fail
    go_ret2
    exact ⟨wide, Pl, rfl, by rw [HR2.out]; exact HP.out, HL.out, HB2.out⟩
end Go.Proofs.Ytkhejelmjkpgfaa

namespace Go.Proofs.Ytkhejelmjkpgfaa
open Go.RowKit
set_option maxRecDepth 4000

theorem run_str8 (W : World) (G c : Nat) (b0 b1 b2 b3 b4 b5 b6 b7 : UInt8) (h : ∀ j, j < 8 → W.cell? ⟨G, j, none⟩ = some (B ([b0, b1, b2, b3, b4, b5, b6, b7].getD j 0))) :
    (convert 51 9 (.slice (some ⟨G, 0, none⟩) 8 c)).run Try.prog W = .ok (.string ⟨#[b0, b1, b2, b3, b4, b5, b6, b7]⟩) W := by
  refine run_convert_bytes_back W 51 9 5 ⟨G, 0, none⟩ c [b0, b1, b2, b3, b4, b5, b6, b7] (by kernel_rfl) (by kernel_rfl) (by kernel_rfl) ?_
  intro j hj
  have := eight_at h j (B ([b0, b1, b2, b3, b4, b5, b6, b7][j])) (by rw [List.getElem?_map, List.getElem?_eq_getElem hj]; rfl)
  exact this
theorem str8_after {W0 X w' : World} {G c : Nat} {b0 b1 b2 b3 b4 b5 b6 b7 : UInt8} (h : ∀ j, j < 8 → W0.cell? ⟨G, j, none⟩ = some (B ([b0, b1, b2, b3, b4, b5, b6, b7].getD j 0))) (hG : G < W0.heap.size) (hX : Below W0.heap.size W0 X) (hb : Below X.heap.size X w') :
    (convert 51 9 (.slice (some ⟨G, 0, none⟩) 8 c)).run Try.prog w' = .ok (.string ⟨#[b0, b1, b2, b3, b4, b5, b6, b7]⟩) w' ∧ ∀ o, (convert 51 9 (.slice (some ⟨G, 0, none⟩) 8 c)).run Try.prog (w'.alloc o) = .ok (.string ⟨#[b0, b1, b2, b3, b4, b5, b6, b7]⟩) (w'.alloc o) := by
  have hB : Below W0.heap.size W0 w' := hX.trans (hb.mono hX.size)
  exact ⟨run_str8 _ _ _ _ _ _ _ _ _ _ _ fun j hj => (hB.cell (p := ⟨G, j, none⟩) hG).trans (h j hj), fun o => run_str8 _ _ _ _ _ _ _ _ _ _ _ fun j hj => ((hB.alloc hB.size o).cell (p := ⟨G, j, none⟩) hG).trans (h j hj)⟩
theorem cell_after {W0 X w' : World} {p : Addr} {v : Value} (h : W0.cell? p = some v) (hp : p.block < W0.heap.size) (hX : Below W0.heap.size W0 X) (hb : Below X.heap.size X w') : w'.cell? p = some v :=
  ((hX.trans (hb.mono hX.size)).cell hp).trans h
theorem quo_w {n : Nat} (h : n ≤ 60000) : wrap64 ((n : Int) / 256) = (n : Int) / 256 := by unfold wrap64; omega
theorem quo_m {n : Nat} (h : n ≤ 60000) : (n : Int) / 256 % 256 = (n : Int) / 256 := by omega
/-- one blob more: the IDs ahead -/
theorem not_more {l : List Blb} {j : Nat} {q : Blb} {x : List UInt8} (hq : l[j]? = some q) (h : x ∉ ((l.take j).map Blb.p).map Pk.bid) (hne : Pk.bid q.p ≠ x) : x ∉ ((l.take (j + 1)).map Blb.p).map Pk.bid := by
  rw [take_more hq, List.map_append, List.map_append, List.mem_append, not_or]
  refine ⟨h, fun e => hne ?_⟩
  have e : x = Pk.bid q.p := by simpa using e
  exact e.symm
/-- what is wrong where the first ID alike is found -/
theorem mErr_found {l : List Blb} {k j : Nat} {q t : Blb} (hj : j < k) (hq : l[j]? = some q) (ht : l[k]? = some t) (hb : Pk.bErr t.p = 0) (hid : Pk.bid q.p = Pk.bid t.p) (hu : (((l.take k).map Blb.p).map Pk.bid).Nodup) :
    Pk.mErr ((l.take k).map Blb.p) ((l.drop k).map Blb.p) = if blSame q t then 10 else 11 := by
  have hqm : q ∈ l.take k := List.mem_of_getElem? (i := j) (by rw [List.getElem?_take, if_pos hj]; exact hq)
  rw [mErr_turn ht, if_neg (fun e => e hb)]
  by_cases hs : blSame q t = true
  · have := blSame_iff.1 hs
    rw [if_pos (by rw [← this]; exact List.mem_map_of_mem hqm), if_pos hs]
  · rw [if_neg (fun hm => ?_), if_pos (by rw [← hid]; exact List.mem_map_of_mem (List.mem_map_of_mem hqm)), if_neg hs]
    obtain ⟨o, ho, e⟩ := List.mem_map.1 hm
    have e := Blb.p_inj e
    subst e
    exact hs (blSame_iff.2 (nodup_inj (f := fun x : Blb => Pk.bid x.p) (l := l.take k) (by simpa [List.map_map, Function.comp_def] using hu) hqm ho hid))

set_option maxHeartbeats 4000000 in
theorem rmake_any (v : Value) (l : List Blb) (w : World) (h : Bx w v l) (hok : BOk l) (hl : l.length ≤ 140737488351232) :
    Calls Try.prog 12 #[v] w fun e w' => ∃ s' : ByteArray, e = .returned (.tuple #[.string s', .int .i64 (Pk.makeErr (l.map Blb.p))]) ∧ MkOut s' l ∧ Below w.heap.size w w' := by
  obtain ⟨i0, hi, hz0, hz1, hz2⟩ := info_parts info_id
  obtain ⟨a, c, rfl, hc1, hc2⟩ := h.slice
  by_cases h40 : 40 < l.length
  · have HE : Hid (Pk.makeErr (l.map Blb.p) = 2) := by show _ = _; unfold Pk.makeErr; rw [if_pos (by rw [List.length_map]; exact h40)]
    go_enter Try.func12, Try.ntmps12
    go_wp2_with fail
    go_ret2
    exact ⟨⟨#[]⟩, by rw [HE.out]; rfl, ⟨fun _ => rfl, fun e => by rw [HE.out] at e; omega⟩, Below.refl _ _⟩
  have h40' : l.length ≤ 40 := by omega
  have HE0 : Hid (Pk.makeErr (l.map Blb.p) = Pk.mErr ((l.take 0).map Blb.p) ((l.drop 0).map Blb.p)) := by
    show _ = _; unfold Pk.makeErr; rw [if_neg (by rw [List.length_map]; exact h40)]; rfl
  have HH : Hid (Bx w (.slice a l.length c) l) := h
  have HK : Hid (BOk l) := hok
  obtain ⟨ME, hME⟩ : ∃ ME, Pk.makeErr (l.map Blb.p) = ME := ⟨_, rfl⟩
  have HME : Hid (Pk.makeErr (l.map Blb.p) = ME) := hME
  rw [hME] at HE0 ⊢
  clear h hok h40 hME
  have hput0 := rput_any (l.length : Int) w (by omega) (by omega)
  rw [Int.toNat_natCast] at hput0
  go_enter Try.func12, Try.ntmps12
  go_wp2_with fail
  refine hput0.mono ?_
  rintro e w1 ⟨rfl, hb1⟩
  have HB1 : Hid (Below w.heap.size w w1) := hb1
  clear hb1 hput0
  go_wp2_with fail
  go_loopw [4, 5, 6, 25] (fun vi vb vm i wr => ∃ (k : Nat) (ps : List (List UInt8)) (Lb Ll : List UInt8), k ≤ l.length ∧ i = .int .i64 k ∧ vb = .string ⟨Lb.toArray⟩ ∧ vm = .string ⟨Ll.toArray⟩ ∧ Hid (Lb = ps.flatten) ∧ Hid (Ll = Nm.put l.length ++ Pk.rowsB ((l.take k).map Blb.p) ps) ∧ Hid (PzL (l.take k) ps) ∧ Hid (Lb.length ≤ 4097 * k ∧ 0 < Ll.length ∧ Ll.length ≤ 9 + 18 * k) ∧
      Hid (ME = Pk.mErr ((l.take k).map Blb.p) ((l.drop k).map Blb.p)) ∧ Hid ((((l.take k).map Blb.p).map Pk.bid).Nodup) ∧ Hid (wr.ownsRow w.heap.size 26 8 vi k (rowR bidC (l.take k))) ∧ Hid (Below w.heap.size w wr)) (fun _ _ _ i _ => l.length - (intOf i).toNat)
  case atStart =>
    have := put_le l.length
    exact ⟨0, [], [], Nm.put l.length, by omega, rfl, rfl, rfl, rfl, by show _ = _; simp [Pk.rowsB], trivial, ⟨by simp, by omega, by omega⟩, HE0, List.nodup_nil, World.ownsRow_nil _ _ _ _, HB1.out⟩
  case round =>
    obtain ⟨k, ps, Lb, Ll, hk, rfl, rfl, rfl, hLb, hLl, hPz, hsz, he, hnd, hown, hbel⟩ := hrel
    clear HE0 HB1
    by_cases hlt : k < l.length
    · obtain ⟨t, ht⟩ : ∃ t, l[k]? = some t := ⟨_, List.getElem?_eq_getElem hlt⟩
      have HT : Hid (l[k]? = some t) := ht
      obtain ⟨bk, o, rfl, hbk, c0, c1⟩ := (HH.out.below hbel.out).blob k t ht
      have hbt := HK.out t (List.mem_of_getElem? ht)
      obtain ⟨b0, b1, b2, b3, b4, b5, b6, b7, hx⟩ := eight _ (idOr_length t)
      have hid := fun W => rpid_any t W hbt.2
      rw [hx] at hid
      have hid' : ∀ W, Calls Try.prog 10 #[.agg #[.int .i64 t.kind, .string t.bytes]] W fun e w' => e = .returned (.tuple #[.agg #[.int .u8 (b0.toNat : Int), .int .u8 (b1.toNat : Int), .int .u8 (b2.toNat : Int), .int .u8 (b3.toNat : Int), .int .u8 (b4.toNat : Int), .int .u8 (b5.toNat : Int), .int .u8 (b6.toNat : Int), .int .u8 (b7.toNat : Int)], .int .i64 (Pk.bErr t.p)]) ∧ Below W.heap.size W w' := hid
      clear hid ht
      by_cases hE : Pk.bErr t.p = 0
      · have hxe : Pk.bid t.p = [b0, b1, b2, b3, b4, b5, b6, b7] := by rw [← hx, idOr, if_pos hE]
        have HXE : Hid (Pk.bid t.p = [b0, b1, b2, b3, b4, b5, b6, b7]) := hxe
        have HBE : Hid (Pk.bErr t.p = 0) := hE
        rw [hE] at hid'
        clear hx hE hxe
        go_wp2_with fail
        refine (hid' _).mono ?_
        rintro e w2 ⟨rfl, hb2⟩
        have hB2 := below_past hb2
        have hw2 : wr.heap.size < w2.heap.size := by have := hb2.size; simp at this; omega
        obtain ⟨G, hG⟩ : ∃ G, G = w2.heap.size := ⟨_, rfl⟩
        obtain ⟨W3, hW3⟩ : ∃ W3, W3 = w2.alloc (.cells #[.int .u8 (b0.toNat : Int), .int .u8 (b1.toNat : Int), .int .u8 (b2.toNat : Int), .int .u8 (b3.toNat : Int), .int .u8 (b4.toNat : Int), .int .u8 (b5.toNat : Int), .int .u8 (b6.toNat : Int), .int .u8 (b7.toNat : Int)] 26) := ⟨_, rfl⟩
        have hB3 : Below wr.heap.size wr W3 := by rw [hW3]; exact hB2.alloc hB2.size _
        have HI8 : Hid (∀ j, j < 8 → W3.cell? ⟨G, j, none⟩ = some (B ([b0, b1, b2, b3, b4, b5, b6, b7].getD j 0))) := by rw [hW3, hG]; exact cells8 w2 _ b0 b1 b2 b3 b4 b5 b6 b7
        have hGs : G < W3.heap.size := by rw [hW3, hG]; simp
        have hGw : wr.heap.size < G := by omega
        have HO3 : Hid (W3.ownsRow w.heap.size 26 8 u4 k (rowR bidC (l.take k))) := own_below hown.out hB3
        have HD0 : Hid (W3.cell? ⟨wr.heap.size, 0, none⟩ = some (.int .i64 t.kind)) := by
          rw [hW3]
          exact (((Below.refl _ w2).alloc (Nat.le_refl _) _).cell (p := ⟨wr.heap.size, 0, none⟩) hw2).trans ((hb2.cell (p := ⟨wr.heap.size, 0, none⟩) (by simp)).trans (by simp))
        have HD1 : Hid (W3.cell? ⟨wr.heap.size, 1, none⟩ = some (.string t.bytes)) := by
          rw [hW3]
          exact (((Below.refl _ w2).alloc (Nat.le_refl _) _).cell (p := ⟨wr.heap.size, 1, none⟩) hw2).trans ((hb2.cell (p := ⟨wr.heap.size, 1, none⟩) (by simp)).trans (by simp))
        have HB3 : Hid (Below w.heap.size w W3) := hbel.out.trans (hB3.mono hbel.out.size)
        have hlk : (rowR bidC (l.take k)).length = k * 8 := by rw [rowR_length bidC_length, List.length_take, Nat.min_eq_left hk]
        have HGB : Hid (∀ g, u4.ownBlock = some g → g < wr.heap.size) := fun g hg => (hown.out.lt g hg).2
        obtain ⟨ai, ci, hu4⟩ := own_form HO3.out
        subst hu4
        have hws := hbel.out.size
        clear hb2 hB2 hid' c0 c1 hown hbel hB3 hlk
        obtain ⟨Q0, hQ0⟩ : ∃ Q0, Q0 = wr.heap.size := ⟨_, rfl⟩
        rw [← hQ0] at HD0 HD1 hGw HGB
        have hQB : w.heap.size ≤ Q0 := by rw [hQ0]; exact hws
        go_wp2_with fail
        rw [← hW3, ← hG, ← hQ0]
        clear hW3 hG hQ0 hw2 hws
        go_loopw [40] (fun i wx => ∃ j : Nat, j ≤ k ∧ i = .int .i64 j ∧ Hid ([b0, b1, b2, b3, b4, b5, b6, b7] ∉ ((l.take j).map Blb.p).map Pk.bid) ∧ Hid (Below W3.heap.size W3 wx)) (fun i _ => k - (intOf i).toNat)
        case atStart => exact ⟨0, by omega, rfl, by simp [Hid], Below.refl _ _⟩
        case round =>
          obtain ⟨j, hj, rfl, hnx, hbx⟩ := hrel
          have hGx : G < wr.heap.size := Nat.lt_of_lt_of_le hGs hbx.out.size
          have hIx : ∀ j, j < 8 → wr.cell? ⟨G, j, none⟩ = some (B ([b0, b1, b2, b3, b4, b5, b6, b7].getD j 0)) := fun j hj => (hbx.out.cell (p := ⟨G, j, none⟩) hGs).trans (HI8.out j hj)
          by_cases hjk : j < k
          · obtain ⟨q, hq⟩ : ∃ q, l[j]? = some q := ⟨_, List.getElem?_eq_getElem (by omega)⟩
            have HQ : Hid (l[j]? = some q) := hq
            have hrx := (Rx.of_own bidC_length (by rw [List.length_take, Nat.min_eq_left hk]; exact HO3.out)).below hbx.out
            obtain ⟨gi, oi, hai, hgi, hyc⟩ := hrx.get j q (by rw [List.getElem?_take, if_pos hjk]; exact hq)
            obtain ⟨gi', ci', hf⟩ := own_some HO3.out (by omega)
            rw [Value.slice.injEq] at hf
            obtain ⟨hf1, hf2, hf3⟩ := hf
            clear hf2 hf3
            subst hf1
            have hai' : gi' = gi ∧ 0 = oi := by simpa using hai
            obtain ⟨rfl, rfl⟩ : gi = gi' ∧ oi = 0 := ⟨hai'.1.symm, hai'.2.symm⟩
            obtain ⟨q0, q1, q2, q3, q4, q5, q6, q7, hqe⟩ := eight _ (Pk.bid_length q.p)
            rw [show bidC q = List.map B [q0, q1, q2, q3, q4, q5, q6, q7] from by rw [bidC, hqe]] at hyc
            obtain ⟨bk', o', hbo, hbk', e0, e1⟩ := (HH.out.below (HB3.out.trans (hbx.out.mono HB3.out.size))).blob j q hq
            obtain ⟨rfl, rfl⟩ : bk = bk' ∧ o = o' := by simpa using hbo
            obtain ⟨_, _, hbo2, _, f0, f1⟩ := (HH.out.below (HB3.out.trans (hbx.out.mono HB3.out.size))).blob k t HT.out
            obtain ⟨rfl, rfl⟩ : _ ∧ _ := by simpa using hbo2
            have HQE : Hid (Pk.bid q.p = [q0, q1, q2, q3, q4, q5, q6, q7]) := hqe
            clear hq hrx hai hai' hqe hbo hbo2
            have y0 : ∀ X : Since wr.heap.size wr, X.val.cell? ⟨gi, j * 8, none⟩ = some (.int .u8 (q0.toNat : Int)) := fun X => (X.property.cell (p := ⟨gi, j * 8, none⟩) hgi).trans (by simpa [B] using hyc 0 _ rfl)
            have y1 : ∀ X : Since wr.heap.size wr, X.val.cell? ⟨gi, j * 8 + 1, none⟩ = some (.int .u8 (q1.toNat : Int)) := fun X => (X.property.cell (p := ⟨gi, j * 8 + 1, none⟩) hgi).trans (by simpa [B] using hyc 1 _ rfl)
            have y2 : ∀ X : Since wr.heap.size wr, X.val.cell? ⟨gi, j * 8 + 2, none⟩ = some (.int .u8 (q2.toNat : Int)) := fun X => (X.property.cell (p := ⟨gi, j * 8 + 2, none⟩) hgi).trans (by simpa [B] using hyc 2 _ rfl)
            have y3 : ∀ X : Since wr.heap.size wr, X.val.cell? ⟨gi, j * 8 + 3, none⟩ = some (.int .u8 (q3.toNat : Int)) := fun X => (X.property.cell (p := ⟨gi, j * 8 + 3, none⟩) hgi).trans (by simpa [B] using hyc 3 _ rfl)
            have y4 : ∀ X : Since wr.heap.size wr, X.val.cell? ⟨gi, j * 8 + 4, none⟩ = some (.int .u8 (q4.toNat : Int)) := fun X => (X.property.cell (p := ⟨gi, j * 8 + 4, none⟩) hgi).trans (by simpa [B] using hyc 4 _ rfl)
            have y5 : ∀ X : Since wr.heap.size wr, X.val.cell? ⟨gi, j * 8 + 5, none⟩ = some (.int .u8 (q5.toNat : Int)) := fun X => (X.property.cell (p := ⟨gi, j * 8 + 5, none⟩) hgi).trans (by simpa [B] using hyc 5 _ rfl)
            have y6 : ∀ X : Since wr.heap.size wr, X.val.cell? ⟨gi, j * 8 + 6, none⟩ = some (.int .u8 (q6.toNat : Int)) := fun X => (X.property.cell (p := ⟨gi, j * 8 + 6, none⟩) hgi).trans (by simpa [B] using hyc 6 _ rfl)
            have y7 : ∀ X : Since wr.heap.size wr, X.val.cell? ⟨gi, j * 8 + 7, none⟩ = some (.int .u8 (q7.toNat : Int)) := fun X => (X.property.cell (p := ⟨gi, j * 8 + 7, none⟩) hgi).trans (by simpa [B] using hyc 7 _ rfl)
            have z0 : ∀ X : Since wr.heap.size wr, X.val.cell? ⟨G, 0, none⟩ = some (.int .u8 (b0.toNat : Int)) := fun X => (X.property.cell (p := ⟨G, 0, none⟩) hGx).trans (hIx 0 (by omega))
            have z1 : ∀ X : Since wr.heap.size wr, X.val.cell? ⟨G, 1, none⟩ = some (.int .u8 (b1.toNat : Int)) := fun X => (X.property.cell (p := ⟨G, 1, none⟩) hGx).trans (hIx 1 (by omega))
            have z2 : ∀ X : Since wr.heap.size wr, X.val.cell? ⟨G, 2, none⟩ = some (.int .u8 (b2.toNat : Int)) := fun X => (X.property.cell (p := ⟨G, 2, none⟩) hGx).trans (hIx 2 (by omega))
            have z3 : ∀ X : Since wr.heap.size wr, X.val.cell? ⟨G, 3, none⟩ = some (.int .u8 (b3.toNat : Int)) := fun X => (X.property.cell (p := ⟨G, 3, none⟩) hGx).trans (hIx 3 (by omega))
            have z4 : ∀ X : Since wr.heap.size wr, X.val.cell? ⟨G, 4, none⟩ = some (.int .u8 (b4.toNat : Int)) := fun X => (X.property.cell (p := ⟨G, 4, none⟩) hGx).trans (hIx 4 (by omega))
            have z5 : ∀ X : Since wr.heap.size wr, X.val.cell? ⟨G, 5, none⟩ = some (.int .u8 (b5.toNat : Int)) := fun X => (X.property.cell (p := ⟨G, 5, none⟩) hGx).trans (hIx 5 (by omega))
            have z6 : ∀ X : Since wr.heap.size wr, X.val.cell? ⟨G, 6, none⟩ = some (.int .u8 (b6.toNat : Int)) := fun X => (X.property.cell (p := ⟨G, 6, none⟩) hGx).trans (hIx 6 (by omega))
            have z7 : ∀ X : Since wr.heap.size wr, X.val.cell? ⟨G, 7, none⟩ = some (.int .u8 (b7.toNat : Int)) := fun X => (X.property.cell (p := ⟨G, 7, none⟩) hGx).trans (hIx 7 (by omega))
            have e0' : ∀ X : Since wr.heap.size wr, X.val.cell? ⟨bk, o + j * 2, none⟩ = some (.int .i64 q.kind) := fun X => (X.property.cell (p := ⟨bk, o + j * 2, none⟩) hbk').trans e0
            have e1' : ∀ X : Since wr.heap.size wr, X.val.cell? ⟨bk, o + j * 2 + 1, none⟩ = some (.string q.bytes) := fun X => (X.property.cell (p := ⟨bk, o + j * 2 + 1, none⟩) hbk').trans e1
            have f0' : ∀ X : Since wr.heap.size wr, X.val.cell? ⟨bk, o + k * 2, none⟩ = some (.int .i64 t.kind) := fun X => (X.property.cell (p := ⟨bk, o + k * 2, none⟩) hbk').trans f0
            have f1' : ∀ X : Since wr.heap.size wr, X.val.cell? ⟨bk, o + k * 2 + 1, none⟩ = some (.string t.bytes) := fun X => (X.property.cell (p := ⟨bk, o + k * 2 + 1, none⟩) hbk').trans f1
            have hne : Nonempty (Since wr.heap.size wr) := ⟨⟨wr, Below.refl _ _⟩⟩
            have hqb : ∀ W, (Op.equalIn 10000 26 (.agg #[.int .u8 (q0.toNat : Int), .int .u8 (q1.toNat : Int), .int .u8 (q2.toNat : Int), .int .u8 (q3.toNat : Int), .int .u8 (q4.toNat : Int), .int .u8 (q5.toNat : Int), .int .u8 (q6.toNat : Int), .int .u8 (q7.toNat : Int)]) (.agg #[.int .u8 (b0.toNat : Int), .int .u8 (b1.toNat : Int), .int .u8 (b2.toNat : Int), .int .u8 (b3.toNat : Int), .int .u8 (b4.toNat : Int), .int .u8 (b5.toNat : Int), .int .u8 (b6.toNat : Int), .int .u8 (b7.toNat : Int)])).run Try.prog W = .ok ([q0, q1, q2, q3, q4, q5, q6, q7] == [b0, b1, b2, b3, b4, b5, b6, b7]) W := fun W => id_eq W [q0, q1, q2, q3, q4, q5, q6, q7] [b0, b1, b2, b3, b4, b5, b6, b7] rfl rfl
            have hbb := fun W => bl_cmp W q t
            clear hyc hIx e0 e1 f0 f1
            cases hb : ([q0, q1, q2, q3, q4, q5, q6, q7] == [b0, b1, b2, b3, b4, b5, b6, b7]) with
            | false =>
              rw [hb] at hqb
              have HNE : Hid ([b0, b1, b2, b3, b4, b5, b6, b7] ∉ ((l.take (j + 1)).map Blb.p).map Pk.bid) := not_more HQ.out hnx.out (by rw [HQE.out]; exact beq_eq_false_iff_ne.1 hb)
              clear hb hbb e0' e1' f0' f1'
              go_wp2_with fail
              refine wp_region_since (B := wr.heap.size) (W0 := wr) (by kernel_rfl) (by kernel_rfl) (Below.refl _ _) ?_
              repeat (go_big_quiet_step (fail))
              refine wpQuiet_nil ?_
              rintro w7 ⟨U, rfl⟩
              go_wp2_with fail
              have HU := U.property
              have HUW : Hid (Below wr.heap.size wr U.val) := U.property
              generalize U.val = w7 at *
              refine wp_region_since (B := wr.heap.size) (W0 := wr) (by kernel_rfl) (by kernel_rfl) HU ?_
              clear HU
              repeat (go_big_quiet_step (fail))
              refine wpQuiet_nil ?_
              rintro w8 ⟨V, rfl⟩
              have HB8 : Hid (Below W3.heap.size W3 V.val) := hbx.out.trans (V.property.mono hbx.out.size)
              generalize V.val = w8 at *
              clear y0 y1 y2 y3 y4 y5 y6 y7 z0 z1 z2 z3 z4 z5 z6 z7 hqb hne HUW
              go_wp2_with fail
              go_roundw
              case rel => exact ⟨j + 1, by omega, by go_num, HNE, HB8⟩
              case measure => simp only [intOf]; omega
            | true =>
              rw [hb] at hqb
              have hyx : Pk.bid q.p = Pk.bid t.p := by rw [HQE.out, HXE.out]; exact eq_of_beq hb
              have HME2 : Hid (ME = if blSame q t then 10 else 11) := by show _ = _; rw [he.out]; exact mErr_found hjk HQ.out HT.out HBE.out hyx hnd.out
              clear hb hyx
              cases hs : blSame q t with
              | true =>
                rw [hs, if_pos rfl] at HME2
                rw [hs] at hbb
                clear hs
                go_wp2_with fail
                refine wp_region_since (B := wr.heap.size) (W0 := wr) (by kernel_rfl) (by kernel_rfl) (Below.refl _ _) ?_
                repeat (go_big_quiet_step (fail))
                refine wpQuiet_nil ?_
                rintro w7 ⟨U, rfl⟩
                have HB7 : Hid (Below w.heap.size w U.val) := HB3.out.trans ((hbx.out.trans (U.property.mono hbx.out.size)).mono HB3.out.size)
                generalize U.val = w7 at *
                clear y0 y1 y2 y3 y4 y5 y6 y7 z0 z1 z2 z3 z4 z5 z6 z7 hqb hne e0' e1' f0' f1' hbb
                go_wp2_with fail
                go_ret2
                exact ⟨⟨#[]⟩, by rw [HME2.out]; rfl, ⟨fun _ => rfl, fun e => by have := HME2.out.symm.trans (HME.out.symm.trans e); omega⟩, HB7.out⟩
              | false =>
                rw [hs, if_neg (by decide)] at HME2
                rw [hs] at hbb
                clear hs
                go_wp2_with fail
                refine wp_region_since (B := wr.heap.size) (W0 := wr) (by kernel_rfl) (by kernel_rfl) (Below.refl _ _) ?_
                repeat (go_big_quiet_step (fail))
                refine wpQuiet_nil ?_
                rintro w7 ⟨U, rfl⟩
                go_wp2_with fail
                have HU := U.property
                generalize U.val = w7 at *
                refine wp_region_since (B := wr.heap.size) (W0 := wr) (by kernel_rfl) (by kernel_rfl) HU ?_
                clear HU
                repeat (go_big_quiet_step (fail))
                refine wpQuiet_nil ?_
                rintro w8 ⟨V, rfl⟩
                have HB7 : Hid (Below w.heap.size w V.val) := HB3.out.trans ((hbx.out.trans (V.property.mono hbx.out.size)).mono HB3.out.size)
                generalize V.val = w8 at *
                clear y0 y1 y2 y3 y4 y5 y6 y7 z0 z1 z2 z3 z4 z5 z6 z7 hqb hne e0' e1' f0' f1' hbb
                go_wp2_with fail
                go_ret2
                exact ⟨⟨#[]⟩, by rw [HME2.out]; rfl, ⟨fun _ => rfl, fun e => by have := HME2.out.symm.trans (HME.out.symm.trans e); omega⟩, HB7.out⟩
          · obtain rfl : j = k := by omega
            obtain ⟨kd, hkd, hkd3, hts⟩ := kind_of HBE.out
            have hpr := fun W => rpress_any t.bytes W hts
            have HKD : Hid (t.kind = (kd : Int)) := hkd
            have hQs : Q0 < wr.heap.size := by omega
            have d0 : wr.cell? ⟨Q0, 0, none⟩ = some (.int .i64 (kd : Int)) := by rw [← hkd]; exact (hbx.out.cell (p := ⟨Q0, 0, none⟩) (by show Q0 < _; omega)).trans HD0.out
            have d1 : wr.cell? ⟨Q0, 1, none⟩ = some (.string t.bytes) := (hbx.out.cell (p := ⟨Q0, 1, none⟩) (by show Q0 < _; omega)).trans HD1.out
            have hown4 := own_below HO3.out hbx.out
            have HB4 : Hid (Below w.heap.size w wr) := HB3.out.trans (hbx.out.mono HB3.out.size)
            have hs4 := HB4.out.size
            have HEN : Hid (ME = Pk.mErr ((l.take (j + 1)).map Blb.p) ((l.drop (j + 1)).map Blb.p)) := by
              show _ = _
              rw [he.out, mErr_turn HT.out, if_neg (fun e => e HBE.out), if_neg (fun hm => hnx.out (by rw [← HXE.out]; exact List.mem_map_of_mem hm)), if_neg (by rw [HXE.out]; exact hnx.out)]
            have HND : Hid ((((l.take (j + 1)).map Blb.p).map Pk.bid).Nodup) := more_nodup HT.out hnd.out (by rw [HXE.out]; exact hnx.out)
            have x0 := hIx 0 (by omega)
            have x1 := hIx 1 (by omega)
            have x2 := hIx 2 (by omega)
            have x3 := hIx 3 (by omega)
            have x4 := hIx 4 (by omega)
            have x5 := hIx 5 (by omega)
            have x6 := hIx 6 (by omega)
            have x7 := hIx 7 (by omega)
            simp only [List.getD_cons_zero, List.getD_cons_succ, B] at x0 x1 x2 x3 x4 x5 x6 x7
            have HIX : Hid (∀ j, j < 8 → wr.cell? ⟨G, j, none⟩ = some (B ([b0, b1, b2, b3, b4, b5, b6, b7].getD j 0))) := hIx
            clear hkd hIx HD0 HD1 HI8 hnx HB3 hbx he hnd
            go_wp2_with (at_builtin; refine wpList_append_own _ rfl (.tmp 67) (.tmp 69) 52 rfl w.heap.size 26 i0 (.agg #[.int .u8 0, .int .u8 0, .int .u8 0, .int .u8 0, .int .u8 0, .int .u8 0, .int .u8 0, .int .u8 0]) 8 8 Try.underlying52 hi hz0 hz1 hz2 rfl (by decide) _ _ _ rfl (hown4.alloc _) ⟨wr.heap.size, 0, none⟩ 1 1 (List.map B [b0, b1, b2, b3, b4, b5, b6, b7]) rfl rfl ?c1 ?c2 ?c3 ?c4 ?c5 ?_)
            case c1 => exact eight_at (cells8 wr _ b0 b1 b2 b3 b4 b5 b6 b7)
            case c2 => exact B_one _
            case c3 => unfold maxLen; omega
            case c4 => omega
            case c5 => simp; omega
            intro v' w5 hown5 hgrow5 _
            have hnQ : some Q0 ≠ (Value.slice ai j ci).ownBlock := fun e => by have := HGB.out Q0 e.symm; omega
            have hnG : some G ≠ (Value.slice ai j ci).ownBlock := fun e => by have := HGB.out G e.symm; omega
            have d0' : w5.cell? ⟨Q0, 0, none⟩ = some (.int .i64 (kd : Int)) := hgrow5.cell ((((Below.refl _ wr).alloc (Nat.le_refl _) _).cell (p := ⟨Q0, 0, none⟩) hQs).trans d0) hnQ
            have d1' : w5.cell? ⟨Q0, 1, none⟩ = some (.string t.bytes) := hgrow5.cell ((((Below.refl _ wr).alloc (Nat.le_refl _) _).cell (p := ⟨Q0, 1, none⟩) hQs).trans d1) hnQ
            have HI5 : Hid (∀ j, j < 8 → w5.cell? ⟨G, j, none⟩ = some (B ([b0, b1, b2, b3, b4, b5, b6, b7].getD j 0))) := fun j hj => hgrow5.cell ((((Below.refl _ wr).alloc (Nat.le_refl _) _).cell (p := ⟨G, j, none⟩) hGx).trans (HIX.out j hj)) hnG
            have HO5 : Hid (w5.ownsRow w.heap.size 26 8 v' (j + 1) (rowR bidC (l.take (j + 1)))) := by
              show World.ownsRow _ _ _ _ _ _ _
              rw [take_more HT.out, rowR_more, show bidC t = List.map B [b0, b1, b2, b3, b4, b5, b6, b7] from by rw [bidC, HXE.out]]
              exact hown5
            have HB5 : Hid (Below w.heap.size w w5) := (HB4.out.alloc hs4 _).grown hgrow5 (by simp; omega) (fun q hq => (hown4.lt q hq).1)
            have hGs5 : G < w5.heap.size := by have := hgrow5.size; simp at this; omega
            clear hown5 hgrow5 hown4 d0 d1 hnQ hnG HIX x0 x1 x2 x3 x4 x5 x6 x7 HB4 HO3
            go_wp2_with fail
            refine (hpr _).mono ?_
            rintro e w6 ⟨wide, S, rfl, hS, hHL, hb6⟩
            have HPz : Hid (Pz t.bytes.data.toList S.data.toList) := ⟨wide, hS, hHL⟩
            have hSz : S.size ≤ 4097 := by rw [Lib.size_eq]; exact HPz.out.le (by rw [← Lib.size_eq]; exact hts)
            obtain ⟨Sl, hSl⟩ : ∃ Sl : List UInt8, S = ⟨Sl.toArray⟩ := ⟨S.data.toList, rfl⟩
            subst hSl
            have hSz' : Sl.length ≤ 4097 := by rw [Lib.size_eq] at hSz; exact hSz
            have HPz : Hid (Pz t.bytes.data.toList Sl) := HPz
            obtain ⟨z1, z2, z3⟩ := hsz.out
            have hcat : ∀ W : World, (Op.stringOp .add ⟨Lb.toArray⟩ ⟨Sl.toArray⟩).run Try.prog W = .ok (.string ⟨(Lb ++ Sl).toArray⟩) W := fun W => run_string_add_lists W _ _ (by omega) (by omega)
            have hd0 : w6.cell? ⟨Q0, 0, none⟩ = some (.int .i64 (kd : Int)) := (hb6.cell (p := ⟨Q0, 0, none⟩) (by show Q0 < _; omega)).trans d0'
            have HI6 : Hid (∀ j, j < 8 → w6.cell? ⟨G, j, none⟩ = some (B ([b0, b1, b2, b3, b4, b5, b6, b7].getD j 0))) := fun j hj => (hb6.cell (p := ⟨G, j, none⟩) hGs5).trans (HI5.out j hj)
            have HO6 : Hid (w6.ownsRow w.heap.size 26 8 v' (j + 1) (rowR bidC (l.take (j + 1)))) := own_below HO5.out hb6
            have HB6 : Hid (Below w.heap.size w w6) := HB5.out.trans (hb6.mono HB5.out.size)
            have hs6 := hb6.size
            clear hb6 hS hHL hpr d0' d1' HI5 HO5 HB5 hSz
            go_wp2_with fail
            have hQ6 : Q0 < w6.heap.size := by omega
            have hG6 : G < w6.heap.size := by omega
            have m0 : (0 : Int) ≤ (kd : Int) := by omega
            have m1 : (kd : Int) ≤ 255 := by omega
            have hr1 := str_new (kd : Int) m0 m1
            have hr2 := str_new_drew (kd : Int) m0 m1
            simp only [Int.toNat_natCast] at hr1 hr2
            have hA := run_str8 w6.drew G 8 b0 b1 b2 b3 b4 b5 b6 b7 HI6.out
            have hB := run_str8 (w6.alloc (.cells #[.int .u8 (kd : Int)] 5)).drew G 8 b0 b1 b2 b3 b4 b5 b6 b7 (fun j hj => (((Below.refl _ w6).alloc (Nat.le_refl _) _).drew.cell (p := ⟨G, j, none⟩) hG6).trans (HI6.out j hj))
            have hput := fun W => rput_any (Sl.length : Int) W (by omega) (by omega)
            simp only [Int.toNat_natCast] at hput
            have hpl := put_le Sl.length
            have hcat1 : ∀ W : World, (Op.stringOp .add ⟨#[UInt8.ofNat kd]⟩ ⟨#[b0, b1, b2, b3, b4, b5, b6, b7]⟩).run Try.prog W = .ok (.string ⟨([UInt8.ofNat kd] ++ [b0, b1, b2, b3, b4, b5, b6, b7]).toArray⟩) W := fun W => run_string_add_lists W [UInt8.ofNat kd] [b0, b1, b2, b3, b4, b5, b6, b7] (by simp) (by simp)
            have hcat2 : ∀ W : World, (Op.stringOp .add ⟨([UInt8.ofNat kd] ++ [b0, b1, b2, b3, b4, b5, b6, b7]).toArray⟩ ⟨(Nm.put Sl.length).toArray⟩).run Try.prog W = .ok (.string ⟨([UInt8.ofNat kd] ++ [b0, b1, b2, b3, b4, b5, b6, b7] ++ Nm.put Sl.length).toArray⟩) W := fun W => run_string_add_lists W _ _ (by simp) (by omega)
            have HRow : Hid ([UInt8.ofNat kd] ++ [b0, b1, b2, b3, b4, b5, b6, b7] ++ Nm.put Sl.length = Pk.rowB t.p Sl) := by
              show _ = _
              rw [Pk.rowB, show t.p.1 = (kd : Int) from HKD.out, Int.toNat_natCast, HXE.out]; rfl
            have hrl := Pk.rowB_length t.p Sl
            rw [HRow.out] at hcat2
            have hcat3 : ∀ W : World, (Op.stringOp .add ⟨Ll.toArray⟩ ⟨(Pk.rowB t.p Sl).toArray⟩).run Try.prog W = .ok (.string ⟨(Ll ++ Pk.rowB t.p Sl).toArray⟩) W := fun W => run_string_add_lists W _ _ (by omega) (by omega)
            obtain ⟨RW, hRW⟩ : ∃ RW, Pk.rowB t.p Sl = RW := ⟨_, rfl⟩
            have HRW : Hid (Pk.rowB t.p Sl = RW) := hRW
            rw [hRW] at hcat2 hcat3 hrl HRow
            have hrl' : RW.length ≤ 18 := hrl
            clear hRW
            generalize Nm.put Sl.length = PT at *
            generalize hK9 : [UInt8.ofNat kd] ++ [b0, b1, b2, b3, b4, b5, b6, b7] = K9 at *
            clear hK9
            have hwk : IntKind.u8.wrap (kd : Int) = (kd : Int) := by simp only [IntKind.wrap, IntKind.bits, IntKind.signed]; simp; omega
            have hwl : IntKind.u64.wrap (Sl.length : Int) = (Sl.length : Int) := wrap_u64 _ (by omega) (by omega)
            clear hcat hrl
            have HS : Hid (∀ W, Below w6.heap.size w6 W → W.cell? ⟨Q0, 0, none⟩ = some (.int .i64 (kd : Int)) ∧ (convert 51 9 (.slice (some ⟨G, 0, none⟩) 8 8)).run Try.prog W = .ok (.string ⟨#[b0, b1, b2, b3, b4, b5, b6, b7]⟩) W) := fun W hW =>
              ⟨(hW.cell (p := ⟨Q0, 0, none⟩) hQ6).trans hd0, run_str8 _ _ _ _ _ _ _ _ _ _ _ fun j hj => (hW.cell (p := ⟨G, j, none⟩) hG6).trans (HI6.out j hj)⟩
            have B0 : Hid (Below w6.heap.size w6 w6.drew) := (Below.refl _ w6).drew
            have B1 : Hid (∀ o, Below w6.heap.size w6 (w6.alloc o).drew) := fun o => ((Below.refl _ w6).alloc (Nat.le_refl _) o).drew
            clear hA hB
            go_region_held (fun w' => w'.cell? ⟨Q0, 0, none⟩ = some (.int .i64 (kd : Int)) ∧ (convert 51 9 (.slice (some ⟨G, 0, none⟩) 8 8)).run Try.prog w' = .ok (.string ⟨#[b0, b1, b2, b3, b4, b5, b6, b7]⟩) w')
              (first | exact HS.out _ (hbw.alloc hbw.size _) | exact HS.out _ hbw | exact HS.out _ (B1.out _) | exact HS.out _ B0.out)
              (first
                | (refine (hput w6.drew).mono ?_; rintro e w' ⟨rfl, hb⟩; have hbw : Below w6.heap.size w6 w' := B0.out.trans (hb.mono (Nat.le_refl _)))
                | (refine (hput (w6.alloc (.cells #[.int .u8 (kd : Int)] 5)).drew).mono ?_; rintro e w' ⟨rfl, hb⟩; have hbw : Below w6.heap.size w6 w' := (B1.out _).trans (hb.mono (by simp)); have hr3 := str_kept w6 (kd : Int) m0 m1 hb))
            all_goals
              have HB9 : Hid (Below w6.heap.size w6 w') := hbw
              have hs9 := HB9.out.size
              clear hr1 hr2 hcat1 hcat2 hcat3 HS B0 B1 hd0 hput hb hbw
              go_wp2_with fail
              go_roundw
              case rel =>
                refine ⟨j + 1, ps ++ [Sl], Lb ++ Sl, Ll ++ RW, by omega, by go_num, rfl, rfl, ?_, ?_, ?_, ?_, HEN, HND, ?_, ?_⟩
                · show _ = _
                  rw [List.flatten_append, ← hLb.out]; simp
                · show _ = _
                  rw [take_more HT.out, List.map_append, List.map_singleton, rowsB_more _ _ _ _ (by rw [List.length_map]; exact hPz.out.length), HRW.out, hLl.out, List.append_assoc]
                · show PzL _ _
                  rw [take_more HT.out]; exact hPz.out.more HPz.out
                · show _ ∧ _ ∧ _
                  rw [List.length_append, List.length_append]
                  omega
                · first | exact own_below HO6.out (HB9.out.alloc hs9 _) | exact own_below HO6.out HB9.out
                · first | exact (HB6.out.trans (HB9.out.mono HB6.out.size)).alloc (by have := HB6.out.size; omega) _ | exact HB6.out.trans (HB9.out.mono HB6.out.size)
              case measure => simp only [intOf]; omega
      · have HME2 : Hid (ME = Pk.bErr t.p) := by show _ = _; rw [he.out, mErr_turn HT.out, if_pos hE]
        have HX : Hid (Pk.bErr t.p ≠ 0) := hE
        have hE2 : (Pk.bErr t.p == 0) = false := beq_eq_false_iff_ne.2 hE
        clear hE hx
        generalize Pk.bErr t.p = er at *
        go_wp2_with fail
        refine (hid' _).mono ?_
        rintro e w2 ⟨rfl, hb2⟩
        have HB2 : Hid (Below w.heap.size w w2) := hbel.out.trans ((below_past hb2).mono hbel.out.size)
        have hs2 := HB2.out.size
        clear hb2 hid' c0 c1 hown hbel
        go_wp2_with fail
        go_ret2
        exact ⟨⟨#[]⟩, by rw [HME2.out]; rfl, ⟨fun _ => rfl, fun e => absurd (HME2.out.symm.trans (HME.out.symm.trans e)) HX.out⟩, HB2.out.alloc hs2 _⟩
    · obtain rfl : k = l.length := by omega
      have HZ : Hid (ME = 0) := by
        show _ = _
        rw [he.out, List.drop_of_length_le (Nat.le_refl _)]; rfl
      rw [List.take_of_length_le (Nat.le_refl _)] at hPz hLl
      obtain ⟨z1, z2, z3⟩ := hsz.out
      have HF : Hid (Lb ++ Ll ++ Pk.two Ll.length ++ Pk.dg (Lb ++ Ll ++ Pk.two Ll.length) = Pk.packB (l.map Blb.p) ps) := by
        show _ = _
        rw [hLb.out, hLl.out]
        exact seal_pack l ps
      have HFin : Hid (MkOut ⟨(Pk.packB (l.map Blb.p) ps).toArray⟩ l) := ⟨fun e => absurd (HME.out.trans HZ.out) e, fun _ => ⟨ps, hPz.out, rfl⟩⟩
      rw [← HF.out] at HFin
      have hl60 : Ll.length ≤ 60000 := by omega
      have htl : (Pk.two Ll.length).length = 2 := rfl
      obtain ⟨b0, b1, b2, b3, b4, b5, b6, b7, hdg⟩ := eight _ (Pk.dg_length (Lb ++ Ll ++ Pk.two Ll.length))
      have hidL : ∀ W, Calls Try.prog 26 #[.string ⟨(Lb ++ Ll ++ Pk.two Ll.length).toArray⟩] W fun e w' => e = .returned (.agg #[.int .u8 (b0.toNat : Int), .int .u8 (b1.toNat : Int), .int .u8 (b2.toNat : Int), .int .u8 (b3.toNat : Int), .int .u8 (b4.toNat : Int), .int .u8 (b5.toNat : Int), .int .u8 (b6.toNat : Int), .int .u8 (b7.toNat : Int)]) ∧ Below W.heap.size W w' := fun W => by
        have := rid_any ⟨(Lb ++ Ll ++ Pk.two Ll.length).toArray⟩ W (by rw [Lib.size_eq]; simp only [List.length_append]; omega)
        rw [show Nm.low 8 (Mx.narrow 64 (⟨(Lb ++ Ll ++ Pk.two Ll.length).toArray⟩ : ByteArray).data.toList) = [b0, b1, b2, b3, b4, b5, b6, b7] from hdg] at this
        exact this
      rw [hdg] at HFin
      have hcat1 : ∀ W : World, (Op.stringOp .add ⟨Lb.toArray⟩ ⟨Ll.toArray⟩).run Try.prog W = .ok (.string ⟨(Lb ++ Ll).toArray⟩) W := fun W => run_string_add_lists W _ _ (by omega) (by omega)
      have hcat2 : ∀ W : World, (Op.stringOp .add ⟨(Lb ++ Ll).toArray⟩ ⟨(Pk.two Ll.length).toArray⟩).run Try.prog W = .ok (.string ⟨(Lb ++ Ll ++ Pk.two Ll.length).toArray⟩) W := fun W => run_string_add_lists W _ _ (by rw [List.length_append]; omega) (by omega)
      have hcat3 : ∀ W : World, (Op.stringOp .add ⟨(Lb ++ Ll ++ Pk.two Ll.length).toArray⟩ ⟨#[b0, b1, b2, b3, b4, b5, b6, b7]⟩).run Try.prog W = .ok (.string ⟨(Lb ++ Ll ++ Pk.two Ll.length ++ [b0, b1, b2, b3, b4, b5, b6, b7]).toArray⟩) W := fun W => run_string_add_lists W _ [b0, b1, b2, b3, b4, b5, b6, b7] (by rw [List.length_append, List.length_append]; omega) (by simp)
      have hs2 : (convert 51 9 (.slice (some ⟨wr.heap.size, 0, none⟩) 2 2)).run Try.prog (wr.alloc (.cells #[.int .u8 ((Ll.length : Int) % 256), .int .u8 ((Ll.length : Int) / 256)] 5)) = .ok (.string ⟨(Pk.two Ll.length).toArray⟩) (wr.alloc (.cells #[.int .u8 ((Ll.length : Int) % 256), .int .u8 ((Ll.length : Int) / 256)] 5)) := by
        refine run_convert_bytes_back _ 51 9 5 ⟨wr.heap.size, 0, none⟩ 2 (Pk.two Ll.length) (by kernel_rfl) (by kernel_rfl) (by kernel_rfl) ?_
        intro i hi
        exact pair_cells wr _ _ _ i _ (by rw [two_cells hl60, List.getElem?_map, List.getElem?_eq_getElem hi]; rfl)
      have r1 : Int.tmod (Ll.length : Int) 256 = (Ll.length : Int) % 256 := Int.tmod_eq_emod_of_nonneg (by omega)
      have r2 : Int.tdiv (Ll.length : Int) 256 = (Ll.length : Int) / 256 := Int.tdiv_eq_ediv_of_nonneg (by omega)
      have r3 : wrap64 ((Ll.length : Int) / 256) = (Ll.length : Int) / 256 := quo_w hl60
      have r4 : (Ll.length : Int) / 256 % 256 = (Ll.length : Int) / 256 := quo_m hl60
      have HBW : Hid (Below w.heap.size w wr) := hbel.out
      have hsw := HBW.out.size
      generalize Lb ++ Ll ++ Pk.two Ll.length = AL at *
      generalize Pk.two Ll.length = TW at *
      clear HF hdg hLb hLl hPz hsz hown hnd he hbel htl
      go_wp2_with fail
      refine (hidL _).mono ?_
      rintro e w3 ⟨rfl, hb3⟩
      have HB3 : Hid (Below w.heap.size w w3) := (HBW.out.alloc hsw _).trans (hb3.mono (by simp; omega))
      have hs3 := HB3.out.size
      have h8 := run_str8 (w3.alloc (.cells #[.int .u8 (b0.toNat : Int), .int .u8 (b1.toNat : Int), .int .u8 (b2.toNat : Int), .int .u8 (b3.toNat : Int), .int .u8 (b4.toNat : Int), .int .u8 (b5.toNat : Int), .int .u8 (b6.toNat : Int), .int .u8 (b7.toNat : Int)] 26)) w3.heap.size 8 b0 b1 b2 b3 b4 b5 b6 b7 (cells8 w3 _ b0 b1 b2 b3 b4 b5 b6 b7)
      have HBA : Hid (Below w.heap.size w (w3.alloc (.cells #[.int .u8 (b0.toNat : Int), .int .u8 (b1.toNat : Int), .int .u8 (b2.toNat : Int), .int .u8 (b3.toNat : Int), .int .u8 (b4.toNat : Int), .int .u8 (b5.toNat : Int), .int .u8 (b6.toNat : Int), .int .u8 (b7.toNat : Int)] 26))) := HB3.out.alloc hs3 _
      clear hb3 hidL hs2 hcat1 hcat2
      go_wp2_with fail
      go_ret2
      exact ⟨_, by rw [HZ.out]; rfl, HFin.out, HBA.out⟩
end Go.Proofs.Ytkhejelmjkpgfaa

namespace Go.Proofs.Ytkhejelmjkpgfaa
open Go.RowKit
set_option maxRecDepth 4000

section
variable {P : Program}
/-- copy of a text that is no shorter than the slice -/
theorem run_copy_cut (w : World) (dT sT ty elem : TypeId) (b o dLen dCap : Nat) (t : ByteArray)
    (hu : P.underlying dT = some (.slice elem)) (hz : ∀ w, (Go.sizeOf elem).run P w = .ok 1 w) (hle : dLen ≤ t.size)
    (hc : ∀ j, j < dLen → (w.cell? ⟨b, o + j, none⟩).isSome = true) (hf : ∀ j, j < dLen → w.frozen? ⟨b, o + j, none⟩ = false) :
    (Builtin.copy_ #[dT, sT] ty #[.slice (some ⟨b, o, none⟩) dLen dCap, .string t]).run P w = .ok (goInt dLen) (w.setCells b o ((t.data.toList.take dLen).map B)) := by
  have hmin : Nat.min t.size dLen = dLen := Nat.min_eq_right hle
  have hl : ((t.data.toList.take dLen).map B).length = dLen := by rw [List.length_map, List.length_take, ← Lib.size_eq, Nat.min_eq_left hle]
  have hst := run_storeCells_cells (P := P) b o ((t.data.toList.take dLen).map B) 0 w (by rw [hl]; simpa using hc) (by rw [hl]; simpa using hf) (by
    intro v hv
    obtain ⟨x, _, rfl⟩ := List.mem_map.1 hv
    rfl)
  simp [Builtin.copy_, run_underlying hu, Builtin.lenOf, Builtin.firstCells, hz, hmin]
  rw [show List.take dLen (List.map (fun b => Value.int IntKind.u8 (b.toNat : Int)) t.data.toList) = (t.data.toList.take dLen).map B from by rw [List.map_take]; rfl, hst]
  rw [← List.map_take]
  rfl
end
theorem u8_size (w : World) : (Go.sizeOf 5).run Try.prog w = .ok 1 w := by go_simp

set_option maxHeartbeats 1000000 in
theorem idat_any (s : ByteArray) (w : World) (hs : 8 ≤ s.size) (hs2 : s.size ≤ 140737488351232) :
    Calls Try.prog 48 #[.string s] w fun e w' => e = .returned (.agg ((s.data.toList.take 8).map B).toArray) ∧ Below w.heap.size w w' := by
  obtain ⟨b0, b1, b2, b3, b4, b5, b6, b7, hL⟩ := eight (s.data.toList.take 8) (by rw [List.length_take, ← Lib.size_eq]; omega)
  obtain ⟨W2, hW2⟩ : ∃ W2, W2 = (w.alloc (.cells Z8 26)).alloc (.cells Z8 26) := ⟨_, rfl⟩
  have hsz : W2.heap.size = w.heap.size + 2 := by rw [hW2]; simp
  have hX0 : I8 W2 w.heap.size (List.replicate 8 0) := by rw [hW2]; exact (I8.new w 26).below ((Below.refl _ _).alloc (Nat.le_refl _) _) (by simp)
  have hX1 : I8 W2 (w.heap.size + 1) (List.replicate 8 0) := by
    rw [hW2]
    have := I8.new (w.alloc (.cells Z8 26)) 26
    rwa [World.size_alloc] at this
  have hB2 : Below w.heap.size w W2 := by rw [hW2]; exact ((Below.refl _ w).alloc (Nat.le_refl _) _).alloc (by simp) _
  have hcp := run_copy_cut (P := Try.prog) W2 51 9 3 5 (w.heap.size + 1) 0 8 8 s (by kernel_rfl) u8_size hs (fun j hj => by rw [Nat.zero_add, hX1.at_ j hj]; rfl) (fun j hj => by rw [Nat.zero_add]; exact hX1.fz j hj)
  rw [hL] at hcp ⊢
  have hcp' : (Builtin.copy_ #[51, 9] 3 #[.slice (some ⟨w.heap.size + 1, 0, none⟩) 8 8, .string s]).run Try.prog W2 = .ok (.int .i64 8) (set8 W2 (w.heap.size + 1) b0 b1 b2 b3 b4 b5 b6 b7) := hcp
  have hX3 := hX1.store b0 b1 b2 b3 b4 b5 b6 b7
  have hB3 := below_set8 hB2 (show w.heap.size ≤ w.heap.size + 1 by omega) b0 b1 b2 b3 b4 b5 b6 b7
  have hX4 : I8 (set8 W2 (w.heap.size + 1) b0 b1 b2 b3 b4 b5 b6 b7) w.heap.size (List.replicate 8 0) := hX0.below (below_set8 (Below.refl (w.heap.size + 1) W2) (Nat.le_refl _) b0 b1 b2 b3 b4 b5 b6 b7) (by omega)
  generalize set8 W2 (w.heap.size + 1) b0 b1 b2 b3 b4 b5 b6 b7 = W3 at *
  obtain ⟨c0, c1, c2, c3, c4, c5, c6, c7⟩ := hX3.cells
  obtain ⟨d0, d1, d2, d3, d4, d5, d6, d7⟩ := I8.cells (b0 := 0) (b1 := 0) (b2 := 0) (b3 := 0) (b4 := 0) (b5 := 0) (b6 := 0) (b7 := 0) hX4
  obtain ⟨f0, f1, f2, f3, f4, f5, f6, f7⟩ := hX4.free
  have HB : Hid (Below w.heap.size w (set8 W3 w.heap.size b0 b1 b2 b3 b4 b5 b6 b7)) := below_set8 hB3 (Nat.le_refl _) _ _ _ _ _ _ _ _
  clear hX0 hX1 hX3 hX4 hB2 hB3 hL hcp hsz
  dsimp only [Z8] at hW2
  rw [hW2] at hcp'
  clear hW2
  go_enter Try.func48, Try.ntmps48
  go_wp2_with fail
  refine bodyPost_ret (v := .agg #[B b0, B b1, B b2, B b3, B b4, B b5, B b6, B b7]) ?_ rfl ⟨rfl, HB.out⟩
  have hres : Try.f48.results = #[.cell 2 26] := by kernel_rfl
  simp only [results, hres]
  go_simp
  exact ⟨rfl, rfl, rfl, rfl, rfl, rfl, rfl, rfl⟩
end Go.Proofs.Ytkhejelmjkpgfaa

namespace Go.Proofs.Ytkhejelmjkpgfaa
open Go.RowKit
set_option maxRecDepth 4000

set_option maxHeartbeats 1000000 in
theorem prnum_any (s : ByteArray) (m : Int) (w : World) (hs : s.size ≤ 140737488351232) (h0 : 0 ≤ m) (h1 : m ≤ 65536) :
    Calls Try.prog 34 #[.string s, .int .u64 m] w fun e w' => ∃ s' : ByteArray, e = .returned (.tuple #[.int .i64 (Pr.num1 m.toNat s.data.toList).1, .string s', .int .i64 (Pr.num1 m.toNat s.data.toList).2.2]) ∧
      s'.data.toList = (Pr.num1 m.toNat s.data.toList).2.1 ∧ Below w.heap.size w w' := by
  have hg := get_any s w (by omega)
  obtain ⟨M, rfl⟩ := Int.eq_ofNat_of_zero_le h0
  rw [Int.toNat_natCast]
  obtain ⟨n, k, q, hR⟩ : ∃ n k q, Nm.getN s.data.toList = (n, k, q) := ⟨_, _, _, rfl⟩
  unfold Pr.num1
  rw [hR] at hg ⊢
  dsimp only at hg ⊢
  by_cases he : q = 0
  · subst he
    obtain ⟨hk, hn, _⟩ := Nm.get_one hR
    have hk2 : k ≤ s.size := by rw [Lib.size_eq]; exact hk
    have HE : Hid ((s.extract k s.size).data.toList = s.data.toList.drop k) := ext_toList s k
    clear hR hk
    rw [if_neg (by simp)]
    by_cases hm : M < n
    · rw [if_pos hm]
      dsimp only
      go_enter Try.func34, Try.ntmps34
      go_wp2_with fail
      refine hg.mono ?_
      rintro e w' ⟨rfl, rfl⟩
      go_wp2_with fail
      go_ret3
      exact ⟨⟨#[]⟩, rfl, rfl, Below.refl _ _⟩
    · rw [if_neg hm]
      dsimp only
      have hn2 : n ≤ 65536 := by omega
      have hm2 : n ≤ M := by omega
      clear hn hm
      go_enter Try.func34, Try.ntmps34
      go_wp2_with fail
      refine hg.mono ?_
      rintro e w' ⟨rfl, rfl⟩
      clear hg
      go_wp2_with fail
      go_region
      all_goals go_wp2_with fail
      all_goals go_ret3
      all_goals exact ⟨s.extract k s.size, rfl, HE.out, (Below.refl _ _).drew⟩
  · have hq : (q != 0) = true := by simpa using he
    rw [if_pos he]
    dsimp only
    clear hR he
    go_enter Try.func34, Try.ntmps34
    go_wp2_with fail
    refine hg.mono ?_
    rintro e w' ⟨rfl, rfl⟩
    go_wp2_with fail
    go_ret3
    exact ⟨⟨#[]⟩, rfl, rfl, Below.refl _ _⟩

/-- cells of a block of one's own -/
structure Cz (W : World) (G : Nat) (cs : List Value) : Prop where
  at_ : ∀ j v, cs[j]? = some v → W.cell? ⟨G, j, none⟩ = some v
  fz : ∀ j, W.frozen? ⟨G, j, none⟩ = false
  lt : G < W.heap.size
theorem Cz.new (w : World) (cs : Array Value) (t : TypeId) : Cz (w.alloc (.cells cs t)) w.heap.size cs.toList :=
  ⟨fun j v hj => by rw [cell_of_row _ w.heap.size j _ _ _ (heap_alloc_new w _)]; simpa using hj, fun j => by simp, by simp⟩
theorem Cz.below {W W' : World} {G B : Nat} {cs : List Value} (h : Cz W G cs) (hb : Below B W W') (hg : G < B) : Cz W' G cs :=
  ⟨fun j v hj => (hb.cell (p := ⟨G, j, none⟩) hg).trans (h.at_ j v hj), fun j => (hb.frozen (p := ⟨G, j, none⟩) hg).trans (h.fz j), Nat.lt_of_lt_of_le h.lt hb.size⟩
abbrev zE : List Value := [.int .u8 0, .int .u8 0, .int .u8 0, .int .u8 0, .int .u8 0, .int .u8 0, .int .u8 0, .int .u8 0, .int .i64 0, .int .i64 0, .int .i64 0]
/-- a row of the list as it is read: the digest, the kind, how long, what is left, the error -/
def re (l : List UInt8) : List UInt8 × Nat × Nat × List UInt8 × Int :=
  if l.length < 9 then (List.replicate 8 0, 0, 0, [], 3) else
  if ¬ ((l.headD 0).toNat = 1 ∨ (l.headD 0).toNat = 2 ∨ (l.headD 0).toNat = 3) then (List.replicate 8 0, 0, 0, [], 5) else
  if (Pr.num1 4097 (l.drop 9)).2.2 ≠ 0 then (List.replicate 8 0, 0, 0, [], (Pr.num1 4097 (l.drop 9)).2.2) else
  ((l.drop 1).take 8, (l.headD 0).toNat, (Pr.num1 4097 (l.drop 9)).1, (Pr.num1 4097 (l.drop 9)).2.1, 0)
theorem re_length (l : List UInt8) : (re l).1.length = 8 := by
  unfold re
  split
  · simp
  split
  · simp
  split
  · simp
  · rename_i h _ _
    show ((l.drop 1).take 8).length = 8
    rw [List.length_take, List.length_drop]; omega
def reC (l : List UInt8) : List Value := (re l).1.map B ++ [.int .i64 ((re l).2.1 : Int), .int .i64 0, .int .i64 ((re l).2.2.1 : Int)]

set_option maxHeartbeats 2000000 in
theorem re_short (s : ByteArray) (w : World) (hs : s.size < 9) :
    Calls Try.prog 35 #[.string s] w fun e w' => e = .returned (.tuple #[.agg zE.toArray, .string ⟨#[]⟩, .int .i64 3]) ∧ Below w.heap.size w w' := by
  have HB : Hid (∀ o, Below w.heap.size w (w.alloc o)) := fun o => (Below.refl _ w).alloc (Nat.le_refl _) o
  go_enter Try.func35, Try.ntmps35
  go_wp2_with fail
  refine bodyPost_ret (v := .tuple #[.agg zE.toArray, .string ⟨#[]⟩, .int .i64 3]) ?_ rfl ⟨rfl, HB.out _⟩
  have hres : Try.f35.results = #[.cell 2 38, .tmp 3, .tmp 4] := by kernel_rfl
  simp only [results, hres]
  go_simp

set_option maxHeartbeats 2000000 in
theorem re_kind (s : ByteArray) (w : World) (hs : 9 ≤ s.size) (hs2 : s.size ≤ 140737488351232) (hk : kB (s[0].toNat : Int) = false) :
    Calls Try.prog 35 #[.string s] w fun e w' => e = .returned (.tuple #[.agg zE.toArray, .string ⟨#[]⟩, .int .i64 5]) ∧ Below w.heap.size w w' := by
  have HB : Hid (∀ o, Below w.heap.size w (w.alloc o)) := fun o => (Below.refl _ w).alloc (Nat.le_refl _) o
  have hisk := fun W => isKind_any (s[0].toNat : Int) W
  rw [hk] at hisk
  have hb := s[0].toNat_lt
  clear hk
  go_enter Try.func35, Try.ntmps35
  go_wp2_with fail
  refine (hisk _).mono ?_
  rintro e u ⟨rfl, rfl⟩
  clear hisk
  go_wp2_with fail
  refine bodyPost_ret (v := .tuple #[.agg zE.toArray, .string ⟨#[]⟩, .int .i64 5]) ?_ rfl ⟨rfl, HB.out _⟩
  have hres : Try.f35.results = #[.cell 2 38, .tmp 3, .tmp 4] := by kernel_rfl
  simp only [results, hres]
  go_simp

set_option maxHeartbeats 2000000 in
theorem re_num (s : ByteArray) (er : Int) (w : World) (hs : 9 ≤ s.size) (hs2 : s.size ≤ 140737488351232) (hk : kB (s[0].toNat : Int) = true) (her : er ≠ 0)
    (hn : ∀ W, Calls Try.prog 34 #[.string (s.extract 9 s.size), .int .u64 4097] W fun e w' => ∃ s' : ByteArray, e = .returned (.tuple #[.int .i64 0, .string s', .int .i64 er]) ∧ Below W.heap.size W w') :
    Calls Try.prog 35 #[.string s] w fun e w' => e = .returned (.tuple #[.agg zE.toArray, .string ⟨#[]⟩, .int .i64 er]) ∧ Below w.heap.size w w' := by
  have hX := Cz.new w #[.int .u8 0, .int .u8 0, .int .u8 0, .int .u8 0, .int .u8 0, .int .u8 0, .int .u8 0, .int .u8 0, .int .i64 0, .int .i64 0, .int .i64 0] 38
  have HB : Hid (∀ o, Below w.heap.size w (w.alloc o)) := fun o => (Below.refl _ w).alloc (Nat.le_refl _) o
  have hisk := fun W => isKind_any (s[0].toNat : Int) W
  rw [hk] at hisk
  have hb := s[0].toNat_lt
  have he2 : (er == 0) = false := beq_eq_false_iff_ne.2 her
  clear hk her
  go_enter Try.func35, Try.ntmps35
  go_wp2_with fail
  refine (hisk _).mono ?_
  rintro e u ⟨rfl, rfl⟩
  clear hisk
  go_wp2_with fail
  refine (hn _).mono ?_
  rintro e w3 ⟨s', rfl, hb3⟩
  have hX3 := hX.below hb3 (by simp)
  have HB3 : Hid (Below w.heap.size w w3) := below_past hb3
  have z0 := hX3.at_ 0 _ rfl
  have f0 := hX3.fz 0
  have z1 := hX3.at_ 1 _ rfl
  have f1 := hX3.fz 1
  have z2 := hX3.at_ 2 _ rfl
  have f2 := hX3.fz 2
  have z3 := hX3.at_ 3 _ rfl
  have f3 := hX3.fz 3
  have z4 := hX3.at_ 4 _ rfl
  have f4 := hX3.fz 4
  have z5 := hX3.at_ 5 _ rfl
  have f5 := hX3.fz 5
  have z6 := hX3.at_ 6 _ rfl
  have f6 := hX3.fz 6
  have z7 := hX3.at_ 7 _ rfl
  have f7 := hX3.fz 7
  have z8 := hX3.at_ 8 _ rfl
  have f8 := hX3.fz 8
  have z9 := hX3.at_ 9 _ rfl
  have f9 := hX3.fz 9
  have z10 := hX3.at_ 10 _ rfl
  have f10 := hX3.fz 10
  clear hX3 hX hb3 hn
  go_wp2_with fail
  have hk : w.heap.size ≤ w.heap.size := Nat.le_refl _
  refine bodyPost_ret (v := .tuple #[.agg zE.toArray, .string ⟨#[]⟩, .int .i64 er]) ?_ rfl ⟨rfl, ((((((((((HB3.out.setCell hk _).setCell hk _).setCell hk _).setCell hk _).setCell hk _).setCell hk _).setCell hk _).setCell hk _).setCell hk _).setCell hk _).setCell hk _⟩
  have hres : Try.f35.results = #[.cell 2 38, .tmp 3, .tmp 4] := by kernel_rfl
  simp only [results, hres]
  go_simp

set_option maxHeartbeats 2000000 in
theorem re_ok (b0 b1 b2 b3 b4 b5 b6 b7 : UInt8) (s t : ByteArray) (kd n : Nat) (w : World) (hs : 9 ≤ s.size) (hs2 : s.size ≤ 140737488351232) (hkd : s[0].toNat = kd) (hk : kB (kd : Int) = true)
    (hn : ∀ W, Calls Try.prog 34 #[.string (s.extract 9 s.size), .int .u64 4097] W fun e w' => e = .returned (.tuple #[.int .i64 (n : Int), .string t, .int .i64 0]) ∧ Below W.heap.size W w')
    (ha : ∀ W, Calls Try.prog 48 #[.string (s.extract 1 s.size)] W fun e w' => e = .returned (.agg #[.int .u8 (b0.toNat : Int), .int .u8 (b1.toNat : Int), .int .u8 (b2.toNat : Int), .int .u8 (b3.toNat : Int), .int .u8 (b4.toNat : Int), .int .u8 (b5.toNat : Int), .int .u8 (b6.toNat : Int), .int .u8 (b7.toNat : Int)]) ∧ Below W.heap.size W w') :
    Calls Try.prog 35 #[.string s] w fun e w' => e = .returned (.tuple #[.agg #[.int .u8 (b0.toNat : Int), .int .u8 (b1.toNat : Int), .int .u8 (b2.toNat : Int), .int .u8 (b3.toNat : Int), .int .u8 (b4.toNat : Int), .int .u8 (b5.toNat : Int), .int .u8 (b6.toNat : Int), .int .u8 (b7.toNat : Int), .int .i64 (kd : Int), .int .i64 0, .int .i64 (n : Int)], .string t, .int .i64 0]) ∧ Below w.heap.size w w' := by
  have hX := Cz.new w #[.int .u8 0, .int .u8 0, .int .u8 0, .int .u8 0, .int .u8 0, .int .u8 0, .int .u8 0, .int .u8 0, .int .i64 0, .int .i64 0, .int .i64 0] 38
  have hisk := fun W => isKind_any (kd : Int) W
  rw [hk] at hisk
  have hb := s[0].toNat_lt
  clear hk
  go_enter Try.func35, Try.ntmps35
  go_wp2_with fail
  refine (hisk _).mono ?_
  rintro e u ⟨rfl, rfl⟩
  clear hisk
  go_wp2_with fail
  refine (hn _).mono ?_
  rintro e w2 ⟨rfl, hb2⟩
  have hX2 := hX.below hb2 (by simp)
  have HB2 : Hid (Below w.heap.size w w2) := below_past hb2
  clear hX hb2 hn
  go_wp2_with fail
  refine (ha _).mono ?_
  rintro e w3 ⟨rfl, hb3⟩
  have hX3 := hX2.below hb3 hX2.lt
  have HB3 : Hid (Below w.heap.size w w3) := HB2.out.trans (hb3.mono HB2.out.size)
  have z0 := hX3.at_ 0 _ rfl
  have f0 := hX3.fz 0
  have z1 := hX3.at_ 1 _ rfl
  have f1 := hX3.fz 1
  have z2 := hX3.at_ 2 _ rfl
  have f2 := hX3.fz 2
  have z3 := hX3.at_ 3 _ rfl
  have f3 := hX3.fz 3
  have z4 := hX3.at_ 4 _ rfl
  have f4 := hX3.fz 4
  have z5 := hX3.at_ 5 _ rfl
  have f5 := hX3.fz 5
  have z6 := hX3.at_ 6 _ rfl
  have f6 := hX3.fz 6
  have z7 := hX3.at_ 7 _ rfl
  have f7 := hX3.fz 7
  have z8 := hX3.at_ 8 _ rfl
  have f8 := hX3.fz 8
  have z9 := hX3.at_ 9 _ rfl
  have f9 := hX3.fz 9
  have z10 := hX3.at_ 10 _ rfl
  have f10 := hX3.fz 10
  clear hX3 hX2 hb3 ha
  go_wp2_with fail
  have hk : w.heap.size ≤ w.heap.size := Nat.le_refl _
  refine bodyPost_ret (v := .tuple #[.agg #[.int .u8 (b0.toNat : Int), .int .u8 (b1.toNat : Int), .int .u8 (b2.toNat : Int), .int .u8 (b3.toNat : Int), .int .u8 (b4.toNat : Int), .int .u8 (b5.toNat : Int), .int .u8 (b6.toNat : Int), .int .u8 (b7.toNat : Int), .int .i64 (kd : Int), .int .i64 0, .int .i64 (n : Int)], .string t, .int .i64 0]) ?_ rfl ⟨rfl, ((((((((((HB3.out.setCell hk _).setCell hk _).setCell hk _).setCell hk _).setCell hk _).setCell hk _).setCell hk _).setCell hk _).setCell hk _).setCell hk _).setCell hk _⟩
  have hres : Try.f35.results = #[.cell 2 38, .tmp 3, .tmp 4] := by kernel_rfl
  simp only [results, hres]
  go_simp

theorem re_any (s : ByteArray) (w : World) (hs : s.size ≤ 140737488351232) :
    Calls Try.prog 35 #[.string s] w fun e w' => ∃ s' : ByteArray, e = .returned (.tuple #[.agg (reC s.data.toList).toArray, .string s', .int .i64 (re s.data.toList).2.2.2.2]) ∧ s'.data.toList = (re s.data.toList).2.2.2.1 ∧ Below w.heap.size w w' := by
  have hsz : s.data.toList.length = s.size := (Lib.size_eq s).symm
  by_cases h9 : s.size < 9
  · have hr : re s.data.toList = (List.replicate 8 0, 0, 0, [], 3) := by unfold re; rw [if_pos (by omega)]
    rw [reC, hr]
    exact (re_short s w h9).mono fun e w' ⟨he, hb⟩ => ⟨⟨#[]⟩, he, rfl, hb⟩
  have h0 : 0 < s.size := by omega
  have hh := head_byte s h0
  have hx9 := ext_toList s 9
  have hx1 := ext_toList s 1
  by_cases hk : kB (s[0].toNat : Int) = true
  · have hk' : s[0].toNat = 1 ∨ s[0].toNat = 2 ∨ s[0].toNat = 3 := by
      have : (s[0].toNat : Int) = 1 ∨ (s[0].toNat : Int) = 2 ∨ (s[0].toNat : Int) = 3 := kB_of.1 hk
      omega
    have hn := fun W => prnum_any (s.extract 9 s.size) 4097 W (by rw [ByteArray.size_extract]; omega) (by omega) (by omega)
    rw [hx9, show (4097 : Int).toNat = 4097 from rfl] at hn
    by_cases he : (Pr.num1 4097 (s.data.toList.drop 9)).2.2 ≠ 0
    · have hr : re s.data.toList = (List.replicate 8 0, 0, 0, [], (Pr.num1 4097 (s.data.toList.drop 9)).2.2) := by
        unfold re
        rw [if_neg (by omega), if_neg (fun h => h (by rw [hh]; exact hk')), if_pos he]
      have hz : (Pr.num1 4097 (s.data.toList.drop 9)).1 = 0 := by
        unfold Pr.num1 at he ⊢
        split
        · rfl
        split
        · rfl
        · rename_i h1 h2; rw [if_neg h1, if_neg h2] at he; exact absurd rfl he
      rw [hz] at hn
      rw [reC, hr]
      refine (re_num s _ w (by omega) hs hk he fun W => (hn W).mono fun e w' ⟨s', h1, _, h3⟩ => ⟨s', h1, h3⟩).mono fun e w' ⟨he, hb⟩ => ⟨⟨#[]⟩, he, rfl, hb⟩
    · have hr : re s.data.toList = ((s.data.toList.drop 1).take 8, s[0].toNat, (Pr.num1 4097 (s.data.toList.drop 9)).1, (Pr.num1 4097 (s.data.toList.drop 9)).2.1, 0) := by
        unfold re
        rw [if_neg (by omega), if_neg (fun h => h (by rw [hh]; exact hk')), if_neg he, hh]
      rw [Classical.not_not.1 he] at hn
      have ha := fun W => idat_any (s.extract 1 s.size) W (by rw [ByteArray.size_extract]; omega) (by rw [ByteArray.size_extract]; omega)
      rw [hx1] at ha
      obtain ⟨b0, b1, b2, b3, b4, b5, b6, b7, hL⟩ := eight ((s.data.toList.drop 1).take 8) (by rw [List.length_take, List.length_drop]; omega)
      rw [hL] at ha
      have hn' : ∀ W, Calls Try.prog 34 #[.string (s.extract 9 s.size), .int .u64 4097] W fun e w' => e = .returned (.tuple #[.int .i64 ((Pr.num1 4097 (s.data.toList.drop 9)).1 : Int), .string ⟨(Pr.num1 4097 (s.data.toList.drop 9)).2.1.toArray⟩, .int .i64 0]) ∧ Below W.heap.size W w' := fun W => (hn W).mono fun e w' ⟨s', h1, h2, h3⟩ => by
        obtain rfl : s' = ⟨(Pr.num1 4097 (s.data.toList.drop 9)).2.1.toArray⟩ := by rw [← h2]
        exact ⟨h1, h3⟩
      rw [reC, hr, hL]
      exact (re_ok b0 b1 b2 b3 b4 b5 b6 b7 s _ s[0].toNat _ w (by omega) hs rfl hk hn' ha).mono fun e w' ⟨he, hb⟩ => ⟨_, he, rfl, hb⟩
  · have hr : re s.data.toList = (List.replicate 8 0, 0, 0, [], 5) := by
      unfold re
      rw [if_neg (by omega), if_pos (fun h => hk (kB_of.2 (by
        rw [hh] at h
        show (s[0].toNat : Int) = 1 ∨ (s[0].toNat : Int) = 2 ∨ (s[0].toNat : Int) = 3
        omega)))]
    rw [reC, hr]
    exact (re_kind s w (by omega) hs (by simpa using hk)).mono fun e w' ⟨he, hb⟩ => ⟨⟨#[]⟩, he, rfl, hb⟩
end Go.Proofs.Ytkhejelmjkpgfaa

namespace Go.Proofs.Ytkhejelmjkpgfaa
open Go.RowKit
set_option maxRecDepth 4000

theorem MkOut.once {s t : ByteArray} {l : List Blb} (h : MkOut s l) (k : MkOut t l) : s = t := by
  have hd : s.data.toList = t.data.toList := by
    by_cases he : Pk.makeErr (l.map Blb.p) = 0
    · obtain ⟨ps, h1, h2⟩ := h.2 he
      obtain ⟨qs, k1, k2⟩ := k.2 he
      rw [h2, k2, PzL.once h1 k1]
    · rw [h.1 he, k.1 he]
  obtain ⟨⟨x⟩⟩ := s
  obtain ⟨⟨y⟩⟩ := t
  have hd : x = y := hd
  rw [hd]

set_option maxHeartbeats 4000000 in
theorem packMakes_walk (v0 : Value) (l0 : List Blb) (z0 : l0.length ≤ 140737488351232) (f0 : BOk l0) (w : World) (t0 : Bx w v0 l0) :
    Calls Try.prog 3 #[v0] w fun e w' => e = .returned (.bool true) ∧ Below w.heap.size w w' := by
  have HH : Hid (Bx w v0 l0) := t0
  have HK : Hid (BOk l0) := f0
  obtain ⟨a, c, rfl, hc1, hc2⟩ := t0.slice
  clear t0 f0
  go_enter Try.func3, Try.ntmps3
  go_wp2_with fail
  go_loopw [15] (fun i wr => ∃ k : Nat, k ≤ l0.length ∧ i = .int .i64 k ∧ Hid (Below w.heap.size w wr)) (fun i _ => l0.length - (intOf i).toNat)
  case atStart => exact ⟨0, by omega, rfl, Below.refl _ _⟩
  case round =>
    obtain ⟨k, hk, rfl, hbel⟩ := hrel
    by_cases hlt : k < l0.length
    · obtain ⟨t, ht⟩ : ∃ t, l0[k]? = some t := ⟨_, List.getElem?_eq_getElem hlt⟩
      obtain ⟨bk, o, rfl, hbk, c0, c1⟩ := (HH.out.below hbel.out).blob k t ht
      have hbt := HK.out t (List.mem_of_getElem? ht)
      obtain ⟨b0, b1, b2, b3, b4, b5, b6, b7, hx⟩ := eight _ (idOr_length t)
      have hp := fun W => pid_any t W hbt.2
      have hr := fun W => rpid_any t W hbt.2
      rw [hx] at hp hr
      have hp' : ∀ W, Calls Try.prog 9 #[.agg #[.int .i64 t.kind, .string t.bytes]] W fun e w' => e = .returned (.tuple #[.agg #[.int .u8 (b0.toNat : Int), .int .u8 (b1.toNat : Int), .int .u8 (b2.toNat : Int), .int .u8 (b3.toNat : Int), .int .u8 (b4.toNat : Int), .int .u8 (b5.toNat : Int), .int .u8 (b6.toNat : Int), .int .u8 (b7.toNat : Int)], .int .i64 (Pk.bErr t.p)]) ∧ Below W.heap.size W w' := hp
      have hr' : ∀ W, Calls Try.prog 10 #[.agg #[.int .i64 t.kind, .string t.bytes]] W fun e w' => e = .returned (.tuple #[.agg #[.int .u8 (b0.toNat : Int), .int .u8 (b1.toNat : Int), .int .u8 (b2.toNat : Int), .int .u8 (b3.toNat : Int), .int .u8 (b4.toNat : Int), .int .u8 (b5.toNat : Int), .int .u8 (b6.toNat : Int), .int .u8 (b7.toNat : Int)], .int .i64 (Pk.bErr t.p)]) ∧ Below W.heap.size W w' := hr
      have heq : ∀ W, (Op.equalIn 10000 26 (.agg #[.int .u8 (b0.toNat : Int), .int .u8 (b1.toNat : Int), .int .u8 (b2.toNat : Int), .int .u8 (b3.toNat : Int), .int .u8 (b4.toNat : Int), .int .u8 (b5.toNat : Int), .int .u8 (b6.toNat : Int), .int .u8 (b7.toNat : Int)]) (.agg #[.int .u8 (b0.toNat : Int), .int .u8 (b1.toNat : Int), .int .u8 (b2.toNat : Int), .int .u8 (b3.toNat : Int), .int .u8 (b4.toNat : Int), .int .u8 (b5.toNat : Int), .int .u8 (b6.toNat : Int), .int .u8 (b7.toNat : Int)])).run Try.prog W = .ok true W := fun W => by
        have := id_eq W [b0, b1, b2, b3, b4, b5, b6, b7] [b0, b1, b2, b3, b4, b5, b6, b7] rfl rfl
        rw [beq_self_eq_true] at this
        exact this
      have hws := hbel.out.size
      clear hp hr hx ht
      generalize Pk.bErr t.p = er at *
      go_wp2_with fail
      refine (hp' _).mono ?_
      rintro e w2 ⟨rfl, hb2⟩
      have hb2' := below_past hb2
      have d0 := (hb2.cell (p := ⟨wr.heap.size, 0, none⟩) (by simp)).trans (show _ = some (.int .i64 t.kind) from by simp)
      have d1 := (hb2.cell (p := ⟨wr.heap.size, 1, none⟩) (by simp)).trans (show _ = some (.string t.bytes) from by simp)
      have hw2 : wr.heap.size < w2.heap.size := by have := hb2.size; simp at this; omega
      have HB2 : Hid (Below w.heap.size w w2) := hbel.out.trans (hb2'.mono hws)
      have hs2 := HB2.out.size
      clear hb2 hb2' hp' c0 c1 hbel
      go_wp2_with fail
      refine (hr' _).mono ?_
      rintro e w3 ⟨rfl, hb3⟩
      have hX := (Cz.new w2 #[.int .u8 (b0.toNat : Int), .int .u8 (b1.toNat : Int), .int .u8 (b2.toNat : Int), .int .u8 (b3.toNat : Int), .int .u8 (b4.toNat : Int), .int .u8 (b5.toNat : Int), .int .u8 (b6.toNat : Int), .int .u8 (b7.toNat : Int)] 26).below hb3 (by simp)
      have hb3' := below_past hb3
      have HB3 : Hid (Below w.heap.size w w3) := HB2.out.trans (hb3'.mono hs2)
      have hs3 := HB3.out.size
      have hw3 : w2.heap.size < w3.heap.size := hX.lt
      have x0 := hX.at_ 0 _ rfl
      have x1 := hX.at_ 1 _ rfl
      have x2 := hX.at_ 2 _ rfl
      have x3 := hX.at_ 3 _ rfl
      have x4 := hX.at_ 4 _ rfl
      have x5 := hX.at_ 5 _ rfl
      have x6 := hX.at_ 6 _ rfl
      have x7 := hX.at_ 7 _ rfl
      clear hb3 hb3' hr' d0 d1 hX
      go_wp2_with fail
      go_roundw
      case rel => exact ⟨k + 1, by omega, by go_num, HB3.out.alloc hs3 _⟩
      case measure => simp only [intOf]; omega
    · have hHr := HH.out.below hbel.out
      have hm := pkmake_any _ l0 wr hHr HK.out z0
      obtain rfl : k = l0.length := by omega
      go_wp2_with fail
      refine hm.mono ?_
      rintro e w2 ⟨s1, rfl, ho1, hb2⟩
      have hm2 := rmake_any _ l0 w2 (hHr.below hb2) HK.out z0
      have HB2 : Hid (Below w.heap.size w w2) := hbel.out.trans (hb2.mono hbel.out.size)
      have HO1 : Hid (MkOut s1 l0) := ho1
      clear hm hb2 hHr hbel ho1
      generalize Pk.makeErr (l0.map Blb.p) = er at *
      go_wp2_with fail
      refine hm2.mono ?_
      rintro e w3 ⟨s2, rfl, ho2, hb3⟩
      obtain rfl : s1 = s2 := HO1.out.once ho2
      have HB3 : Hid (Below w.heap.size w w3) := HB2.out.trans (hb3.mono HB2.out.size)
      clear hm2 hb3 ho2
      go_wp2_with fail
      go_ret
      exact ⟨rfl, HB3.out⟩
end Go.Proofs.Ytkhejelmjkpgfaa
