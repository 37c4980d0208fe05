/-
  What countDigits and appendDigits of package num answer (contracts over the model's calls), and small facts.
  What number, turned of the document's answer (package lumref) answer.
  What number of the document's answer (package lumref) answers: see RNum.
  The library's contracts at this program: strings_HasPrefix (laid by the guide's own tools, written out in plain words).
  What Put and Get of the document's answer (package lumref) answer.
  lumref: what numberAt answers.
  What PutText of package num answers.
  What GetText of package num answers.
  Nothing is laid here: this program has none of it.
  What PutText and GetText of the document's answer (package lumref) answer.
  What turned of the document's answer (package lumref) answers: each byte b as 255 - b.
  What GetInt of the document's answer (package lumref) answers.
  What GetInt of the document's answer (package lumref) answers, at every string.
  lumref: what nodeRead answers.
  lumref: what TreeRead answers.
  P47: what file of walk's planter answers.
  A region that draws its order, whose first m operations only read (their callees leave what was there), and whose other ones wait for all of these.
  A region that draws its order, whose first m operations may read, call and make memory, each leaving all that was there (the world only grows), and whose other ones wait for all of these:
  one walk, in the order of the text. What an operation makes is known by a law that stays true while the world grows; all others yield one value, whatever the world.
  P47: what node of walk's planter answers.
  P45 (no Go in it): a reader that keeps its first error reads what Td.read says.
  slices.IndexFunc over nodes, by a name.
  A structure of the library's at this program (laid by the guide's own tools, written out in plain words).
  unicode/utf8.ValidString and Check of package names in any world in which unicode/utf8's tables are as they are laid.
  What Check and Find of package tree answer.
  What joinDigits and readDigits of package num answer.
  What Get, GetInt of package num answer.
  What GetInt of package num answers.
  What the reader of package tree answers: numbers, texts, bytes.
  What the reader of package tree answers: IDs.
  What the reader of package tree answers: nodes; what Read answers.
  What Put, PutInt, PutFloat of package num answer.
  What PutInt of package num answers.
-/
import Derived.Test.YtimdioacmojkeabGreatDoorGA
import Derived.Test.YtimdioacmojkeabGreatDoorGB
import Derived.Lib.BitFns
import Derived.Deep.QuietTactic
import Derived.BigQuiet
import Derived.WalkSmall
import Derived.Shelf.Strings.Prefix
import Derived.Test.YtimdioacmojkeabGreatDoorProg
import Derived.Shelf.Strings.Replace
import Derived.Lib.ReplaceLaws
import Derived.Laws.IdiomStrings
import Derived.Deep.RegionLaw
import Derived.Deep.AppendLies
import Derived.Laws.Cover3
import Derived.Lib.SliceRun
import Derived.OwnWalk
import Derived.RegionTactic
import Derived.Shelf.Unicode.ValidAny
import Derived.Deep.RegionWith
import Derived.Lib.LazyBuf

namespace Go.Proofs.YtimdioacmojkeabGreatDoor
open Go.RowKit
set_option maxRecDepth 4000

theorem bitLen_dig (n : Nat) (h : n < 256 ^ 8) : (Lib.bitLen n + 7) / 8 = (Nm.dig n).length := by
  have key : ∀ (f m : Nat), m < 256 ^ f → f ≤ 8 → (Lib.bitLen m + 7) / 8 = (Nm.digF f m).length := by
    intro f
    induction f with
    | zero => intro m hm _; have : m = 0 := by simpa using hm
              subst this; decide
    | succ f ih =>
      intro m hm hf
      have h64 : m < 18446744073709551616 := Nat.lt_of_lt_of_le hm (Nat.le_trans (Nat.pow_le_pow_right (by omega) hf) (by omega))
      rw [Nm.digF]
      split
      · subst_vars; decide
      · rename_i hn
        by_cases hs : 256 ≤ m
        · rw [Lib.bitLen_shift8 m hs h64, List.length_append, List.length_singleton, ← ih (m / 256) (by rw [Nat.pow_succ] at hm; omega) (by omega)]
          omega
        · have h0 : m / 256 = 0 := by omega
          have hd : Nm.digF f 0 = [] := by cases f <;> simp [Nm.digF]
          rw [h0, hd]
          have h1 := Lib.bitLen_le8 ⟨m, by omega⟩
          have h2 := Lib.bitLen_half m hn (by omega)
          simp at h1 ⊢
          omega
  exact key 8 n h (by omega)

set_option maxHeartbeats 400000 in
theorem count_any (n : Int) (w : World) (h0 : 0 ≤ n) (h1 : n ≤ 18446744073709551615) :
    Calls Tryz.prog 86 #[.int .u64 n] w fun e w' => e = .returned (.int .i64 (Nm.dig n.toNat).length) ∧ w' = w := by
  have hb := bitLen_dig n.toNat (by omega)
  have hl := Nm.dig_length_le n.toNat
  have hbl : Lib.bitLen n.toNat ≤ 64 := by omega
  have HB : Hid ((Lib.bitLen n.toNat + 7) / 8 = (Nm.dig n.toNat).length) := hb
  clear hb hl
  go_enter Tryz.func86, Tryz.ntmps86
  go_wp2_with (go_at_call 105; refine (Tryz.bits_Len64 _ _ h0 h1).mono ?_; rintro e w' ⟨rfl, rfl⟩)
  go_ret
  exact ⟨ret_int (by rw [← HB.out]; omega), rfl⟩

theorem byte_at (n t : Int) (q : Nat) (n0 : 0 ≤ n) (h0 : 0 ≤ t) (h1 : t ≤ 255) :
    bits .xor .u8 (n / 2 ^ (8 * q) % 256) t = ((UInt8.ofNat (n.toNat / 256 ^ q % 256) ^^^ UInt8.ofNat t.toNat).toNat : Int) := by
  obtain ⟨m, rfl⟩ := Int.eq_ofNat_of_zero_le n0
  obtain ⟨T, rfl⟩ := Int.eq_ofNat_of_zero_le h0
  have e : ((m : Int) / 2 ^ (8 * q) % 256) = ((m / 256 ^ q % 256 : Nat) : Int) := by
    have : (2 : Int) ^ (8 * q) = ((256 ^ q : Nat) : Int) := by rw [Int.pow_mul]; simp
    rw [this]; simp
  rw [e, u8_xor_nat _ _ (by omega) (by omega)]
  simp only [Int.toNat_natCast]
  generalize m / 256 ^ q = x
  have hx : (UInt8.ofNat (x % 256)).toNat = x % 256 := by rw [UInt8.toNat_ofNat']; omega
  rw [← xor_u8 _ _ (by omega), hx]
theorem append_step {base : Nat} {w wr w1 : World} {v v1 : Value} {ys zs : List UInt8} {n t : Int} {q : Nat} {o : Obj} (hown : wr.ownsRow base 5 1 v ys.length (ys.map B))
    (hown1 : w1.ownsRow base 5 1 v1 (ys.length + 1) (ys.map B ++ [.int .u8 (bits .xor .u8 (n / 2 ^ (8 * q) % 256) t)])) (hg : (wr.alloc o).grownBy w1 v.ownBlock) (hbel : Below base w wr) (hbase : base ≤ w.heap.size)
    (heq : ys ++ Nm.tn t.toNat (Nm.low (q + 1) n.toNat) = zs) (n0 : 0 ≤ n) (_n1 : n ≤ 18446744073709551615) (h0 : 0 ≤ t) (h1 : t ≤ 255) :
    w1.ownsRow base 5 1 v1 (ys ++ [UInt8.ofNat (n.toNat / 256 ^ q % 256) ^^^ UInt8.ofNat t.toNat]).length ((ys ++ [UInt8.ofNat (n.toNat / 256 ^ q % 256) ^^^ UInt8.ofNat t.toNat]).map B) ∧
      (ys ++ [UInt8.ofNat (n.toNat / 256 ^ q % 256) ^^^ UInt8.ofNat t.toNat]) ++ Nm.tn t.toNat (Nm.low q n.toNat) = zs ∧ Below base w w1 := by
  refine ⟨?_, ?_, ?_⟩
  · rw [byte_at n t q n0 h0 h1] at hown1
    simpa [B] using hown1
  · rw [← heq, Nm.low, List.append_assoc]
    simp [Nm.tn]
  · have hs := hbel.size
    refine (hbel.alloc (by omega) o).grown hg (by simp; omega) ?_
    intro k hk
    exact (hown.lt k hk).1

set_option maxHeartbeats 400000 in
theorem digits_app (base : Nat) (v : Value) (xs : List UInt8) (n k t : Int) (w : World) (hown : w.ownsRow base 5 1 v xs.length (xs.map B)) (hbase : base ≤ w.heap.size) (hx : xs.length ≤ 1000)
    (n0 : 0 ≤ n) (n1 : n ≤ 18446744073709551615) (k0 : 0 ≤ k) (k1 : k ≤ 8) (h0 : 0 ≤ t) (h1 : t ≤ 255) :
    Calls Tryz.prog 87 #[v, .int .u64 n, .int .i64 k, .int .u8 t] w fun e w' => ∃ v', e = .returned v' ∧
      w'.ownsRow base 5 1 v' (xs ++ Nm.tn t.toNat (Nm.low k.toNat n.toNat)).length ((xs ++ Nm.tn t.toNat (Nm.low k.toNat n.toNat)).map B) ∧ Below base w w' := by
  obtain ⟨i0, hi, hz0, hz1, hz2⟩ := info_parts info_u8
  go_enter Tryz.func87, Tryz.ntmps87
  go_wp2
  go_loopw [0, 9] (fun v i wr => ∃ (r : Nat) (ys : List UInt8), r ≤ k.toNat ∧ i = .int .i64 ((r : Int) - 1) ∧ wr.ownsRow base 5 1 v ys.length (ys.map B) ∧
      ys ++ Nm.tn t.toNat (Nm.low r n.toNat) = xs ++ Nm.tn t.toNat (Nm.low k.toNat n.toNat) ∧ Below base w wr) (fun _ i _ => (intOf i + 1).toNat)
  case atStart => exact ⟨k.toNat, xs, Nat.le_refl _, int_eq (by omega), hown, rfl, Below.refl _ _⟩
  case round =>
    obtain ⟨r, ys, hr, rfl, hown', heq, hbel⟩ := hrel
    have hbs := hbel.size
    cases r with
    | zero =>
      go_wp2
      go_ret
      refine ⟨u0, rfl, ?_, hbel⟩
      rw [← heq, show Nm.low 0 n.toNat = [] from rfl]
      simpa [Nm.tn] using hown'
    | succ q =>
      have hyl : ys.length ≤ xs.length + 8 := by
        have := congrArg List.length heq
        simp [Nm.tn_length, Nm.low_length] at this
        omega
      go_wp2_with (at_builtin; refine wpList_append_own _ rfl _ _ 89 rfl base 5 i0 (.int .u8 0) 1 1 Tryz.underlying89 hi hz0 hz1 hz2 rfl (by decide) _ _ _ rfl (hown'.alloc _) ⟨wr.heap.size, 0, none⟩ 1 1 [.int .u8 (bits .xor .u8 (n / 2 ^ (8 * q) % 256) t)] rfl rfl ?c1 ?c2 ?c3 ?c4 ?c5 ?_)
      case c1 =>
        intro j u hj
        match j, hj with
        | 0, hj => simp at hj; subst hj; simp [Addr.add]
      case c2 => intro u hu; simp at hu; subst hu; rfl
      case c3 => unfold maxLen; omega
      case c4 => omega
      case c5 => simp; omega
      intro v' w1 hown1 hgrow _
      have R := append_step (q := q) hown' hown1 hgrow hbel hbase heq n0 n1 h0 h1
      clear hown1 hgrow hown' heq hbel
      go_wp2
      go_roundw
      case rel => exact ⟨q, _, by omega, by go_num, R.1, R.2.1, R.2.2⟩
      case measure => simp [intOf]
end Go.Proofs.YtimdioacmojkeabGreatDoor

namespace Go.Proofs.YtimdioacmojkeabGreatDoor
open Go.RowKit

theorem number_step (s : ByteArray) (q : Nat) (hq : s.size = q + 1) (h8 : s.size ≤ 8) :
    IntKind.u64.wrap (256 * (Nm.val (s.data.toList.take q) : Int)) = 256 * (Nm.val (s.data.toList.take q) : Int) ∧
    256 * Nm.val (s.data.toList.take q) + (s[q]'(by omega)).toNat = Nm.val s.data.toList ∧ Nm.val s.data.toList < 18446744073709551616 := by
  have h1 := take_snoc s q (by omega)
  rw [List.take_of_length_le (by rw [← Lib.size_eq]; omega)] at h1
  have hlt := Nm.val_lt s.data.toList
  have hp : 256 ^ s.data.toList.length ≤ 256 ^ 8 := Nat.pow_le_pow_right (by omega) (by rw [← Lib.size_eq]; exact h8)
  have h2 : Nm.val s.data.toList = 256 * Nm.val (s.data.toList.take q) + (s[q]'(by omega)).toNat := by rw [← Nm.val_snoc, ← h1]
  exact ⟨wrap_u64 _ (by omega) (by omega), by omega, by omega⟩
end Go.Proofs.YtimdioacmojkeabGreatDoor



namespace Go.Proofs
open Go.Shelf
def Tryz.lays99_ren : Go.Shelf.Ren := ⟨fun | 99 => 20 | 206 => 36 | n => n, fun | 9 => 9 | 4 => 4 | 3 => 3 | n => n, fun | n => n⟩
theorem Tryz.lays99 : Go.Proofs.Lays.n99 Tryz.prog Tryz.lays99_ren := {
  mixed := by kernel_rfl
  f99 := Tryz.func20.trans (congrArg some (by kernel_rfl))
  f206 := Tryz.func36.trans (congrArg some (by kernel_rfl))
  t3 := Tryz.underlying3
  a3 := Tryz.isAgg3
  z3 := Tryz.sizeOf3
  v3 := Tryz.zeroValue3
  t4 := Tryz.underlying4
  a4 := Tryz.isAgg4
  z4 := Tryz.sizeOf4
  v4 := Tryz.zeroValue4
  t9 := Tryz.underlying9
  a9 := Tryz.isAgg9
  z9 := Tryz.sizeOf9
  v9 := Tryz.zeroValue9 }
open Go.RowKit Go.Lib in
theorem Tryz.strings_HasPrefix (s p : ByteArray) (w : World) :
    Calls Tryz.prog 20 #[.string s, .string p] w fun e w' => e = .returned (.bool (Lib.hasPrefix s.data.toList p.data.toList)) ∧ w' = w := Any.strings_HasPrefix Tryz.lays99 s p w
end Go.Proofs

namespace Go.Proofs.YtimdioacmojkeabGreatDoor
open Go.RowKit

theorem pre_zero (l : List UInt8) (k : Nat) (h : k ≤ l.length) (z : UInt8) : Lib.hasPrefix (l.take k) [z] = decide (0 < k ∧ l.headD 0 = z) := by
  cases k with
  | zero => simp [Lib.hasPrefix]
  | succ k =>
    cases l with
    | nil => simp at h
    | cons b l =>
      have e : Lib.hasPrefix (List.take (k + 1) (b :: l)) [z] = (z == b) := by simp [Lib.hasPrefix, List.isPrefixOf]
      rw [e, Bool.eq_iff_iff, beq_iff_eq, decide_eq_true_eq]
      exact ⟨fun h => ⟨by omega, h.symm⟩, fun h => h.2.symm⟩
theorem mid_data (s : ByteArray) (k : Nat) : (s.extract 1 (1 + k)).data.toList = s.data.toList.tail.take k := by
  rw [Lib.extract_data, List.drop_one, Nat.add_sub_cancel_left]
theorem tail_length (s : ByteArray) : s.data.toList.tail.length = s.size - 1 := by rw [List.length_tail, ← Lib.size_eq]
theorem list_ne' (s : ByteArray) (h : 0 < s.size) : s.data.toList ≠ [] := by
  intro e; have := Lib.size_eq s; rw [e] at this; simp only [List.length_nil] at this; omega
end Go.Proofs.YtimdioacmojkeabGreatDoor

namespace Go.Proofs.YtimdioacmojkeabGreatDoor
open Go.RowKit
end Go.Proofs.YtimdioacmojkeabGreatDoor

namespace Go.Proofs.YtimdioacmojkeabGreatDoor
open Go.RowKit
set_option maxRecDepth 4000

set_option maxHeartbeats 1000000 in
theorem putT_any (s : ByteArray) (w : World) (hs : s.size ≤ 1024) :
    Calls Tryz.prog 88 #[.string s] w fun e w' => e = .returned (.tuple #[.string ⟨(Nm.putT s.data.toList).toArray⟩, .int .i64 0]) ∧ Below w.heap.size w w' := by
  obtain ⟨i0, hi, hz0, hz1, hz2⟩ := info_parts info_u8
  go_enter Tryz.func88, Tryz.ntmps88
  go_wp2
  go_loopw [4, 5] (fun v i wr => ∃ (k : Nat) (ys : List UInt8), k ≤ s.size ∧ i = .int .i64 k ∧ wr.ownsRow w.heap.size 5 1 v ys.length (ys.map B) ∧
      ys = Nm.esc (s.data.toList.take k) ∧ Below w.heap.size w wr) (fun _ i _ => s.size - (intOf i).toNat)
  case atStart => exact ⟨0, [], Nat.zero_le _, rfl, World.ownsRow_nil _ _ _ _, rfl, Below.refl _ _⟩
  case round =>
    obtain ⟨k, ys, hk, rfl, hown, hys, hbel⟩ := hrel
    have hbs := hbel.size
    have HY : Hid (ys = Nm.esc (s.data.toList.take k)) := hys
    have hyl : ys.length ≤ 2048 := by rw [hys]; have := Nm.esc_length (s.data.toList.take k); have := List.length_take_le k s.data.toList; omega
    clear hys
    by_cases hlt : k < s.size
    · have hb := s[k].toNat_lt
      have hts := take_snoc s k hlt
      have HT : Hid (s.data.toList.take (k + 1) = s.data.toList.take k ++ [s[k]]) := hts
      clear hts
      generalize hc : s[k] = c at *
      by_cases hz : c = 0
      · have hq : ((c.toNat : Int) == 0) = true := by rw [hz]; decide
        have HZ : Hid (c = 0) := hz
        clear hz
        go_wp2_with (at_builtin; refine wpList_append_own _ rfl (.tmp 15) (.tmp 19) 89 rfl w.heap.size 5 i0 (.int .u8 0) 1 1 Tryz.underlying89 hi hz0 hz1 hz2 rfl (by decide) _ _ _ rfl (hown.alloc _) ⟨wr.heap.size, 0, none⟩ 1 1 [.int .u8 (c.toNat : Int)] rfl rfl ?c1 ?c2 ?c3 ?c4 ?c5 ?_)
        case c1 =>
          intro j u hj
          match j, hj with
          | 0, hj => simp at hj; subst hj; simp [Addr.add]
        case c2 => intro u hu; simp at hu; subst hu; rfl
        case c3 => unfold maxLen; omega
        case c4 => omega
        case c5 => simp; omega
        intro v1 w1 hown1 hgrow _
        obtain ⟨hown2, hbel2⟩ := own_more (b := c) hown hown1 rfl hgrow hbel (Nat.le_refl _)
        clear hown1 hgrow hown hbel
        have hbs2 := hbel2.size
        go_wp2_with (at_builtin; refine wpList_append_own _ rfl (.tmp 25) (.tmp 26) 89 rfl w.heap.size 5 i0 (.int .u8 0) 1 1 Tryz.underlying89 hi hz0 hz1 hz2 rfl (by decide) _ _ _ rfl (hown2.alloc _) ⟨w1.heap.size, 0, none⟩ 1 1 [.int .u8 255] rfl rfl ?d1 ?d2 ?d3 ?d4 ?d5 ?_)
        case d1 =>
          intro j u hj
          match j, hj with
          | 0, hj => simp at hj; subst hj; simp [Addr.add]
        case d2 => intro u hu; simp at hu; subst hu; rfl
        case d3 => unfold maxLen; simp; omega
        case d4 => simp; omega
        case d5 => simp; omega
        intro v2 w2 hown3 hgrow2 _
        obtain ⟨hown4, hbel4⟩ := own_more (b := 255) hown2 (by simpa using hown3) rfl hgrow2 hbel2 (Nat.le_refl _)
        clear hown3 hgrow2 hown2 hbel2
        go_wp2
        go_roundw
        case rel => exact ⟨k + 1, _, by omega, by go_num, hown4, by rw [HT.out, HZ.out, Nm.esc_zero, ← HY.out], hbel4⟩
        case measure => simp [intOf]; omega
      · have hq : ((c.toNat : Int) == 0) = false := by
          rw [beq_eq_false_iff_ne]; intro h; exact hz (UInt8.toNat_inj.1 (by simp; omega))
        go_wp2_with (at_builtin; refine wpList_append_own _ rfl (.tmp 15) (.tmp 19) 89 rfl w.heap.size 5 i0 (.int .u8 0) 1 1 Tryz.underlying89 hi hz0 hz1 hz2 rfl (by decide) _ _ _ rfl (hown.alloc _) ⟨wr.heap.size, 0, none⟩ 1 1 [.int .u8 (c.toNat : Int)] rfl rfl ?e1 ?e2 ?e3 ?e4 ?e5 ?_)
        case e1 =>
          intro j u hj
          match j, hj with
          | 0, hj => simp at hj; subst hj; simp [Addr.add]
        case e2 => intro u hu; simp at hu; subst hu; rfl
        case e3 => unfold maxLen; omega
        case e4 => omega
        case e5 => simp; omega
        intro v1 w1 hown1 hgrow _
        obtain ⟨hown2, hbel2⟩ := own_more (b := c) hown hown1 rfl hgrow hbel (Nat.le_refl _)
        clear hown1 hgrow hown hbel
        go_wp2
        go_roundw
        case rel => exact ⟨k + 1, _, by omega, by go_num, hown2, by rw [HT.out, Nm.esc_other _ _ hz, ← HY.out], hbel2⟩
        case measure => simp [intOf]; omega
    · have hfin : Hid (ys ++ [0, 0] = Nm.putT s.data.toList) := by
        show _ = _
        rw [HY.out, List.take_of_length_le (by rw [← Lib.size_eq]; omega)]; rfl
      go_wp2_with (at_builtin; refine wpList_append_own _ rfl (.tmp 28) (.tmp 29) 89 rfl w.heap.size 5 i0 (.int .u8 0) 1 1 Tryz.underlying89 hi hz0 hz1 hz2 rfl (by decide) _ _ _ rfl (hown.alloc _) ⟨wr.heap.size, 0, none⟩ 2 2 [.int .u8 0, .int .u8 0] rfl rfl ?f1 ?f2 ?f3 ?f4 ?f5 ?_)
      case f1 =>
        intro j u hj
        match j, hj with
        | 0, hj => simp at hj; subst hj; simp [Addr.add]
        | 1, hj => simp at hj; subst hj; simp [Addr.add]
      case f2 => intro u hu; simp at hu; subst hu; rfl
      case f3 => unfold maxLen; omega
      case f4 => omega
      case f5 => simp; omega
      intro v1 w1 hown1 hgrow _
      have hown2 : w1.ownsRow w.heap.size 5 1 v1 (ys ++ [0, 0]).length ((ys ++ [0, 0]).map B) := by simpa [B] using hown1
      have hbel2 : Below w.heap.size w w1 := by
        refine (hbel.alloc hbs _).grown hgrow (by simp; omega) ?_
        intro j hj
        exact (hown.lt j hj).1
      rw [hfin.out] at hown2
      have hcv := run_str hown2
      clear hown1 hown2 hgrow hown hbel
      go_wp2
      go_ret2
      exact ⟨rfl, hbel2⟩

set_option maxHeartbeats 400000 in
theorem putT_large (s : ByteArray) (w : World) (hs : 1024 < s.size) (_h : s.size ≤ 140737488351232) :
    Calls Tryz.prog 88 #[.string s] w fun e w' => e = .returned (.tuple #[.string ⟨#[]⟩, .int .i64 2]) ∧ w' = w := by
  go_enter Tryz.func88, Tryz.ntmps88
  go_wp2
  go_ret2
  exact ⟨rfl, rfl⟩
end Go.Proofs.YtimdioacmojkeabGreatDoor

namespace Go.Proofs.YtimdioacmojkeabGreatDoor
open Go.RowKit
set_option maxRecDepth 4000

theorem drop_byte (s : ByteArray) (k : Nat) (h : k < s.size) : s.data.toList.drop k = s[k] :: s.data.toList.drop (k + 1) := by
  rw [List.drop_eq_getElem_cons (by simpa using h)]; rfl
theorem byte_ne (c z : UInt8) (h : c ≠ z) : ((c.toNat : Int) == (z.toNat : Int)) = false := by
  rw [beq_eq_false_iff_ne]; intro e; exact h (UInt8.toNat_inj.1 (by omega))

/-- an owned slice shows its length -/
theorem gt_own_len {w : World} {base : Nat} {v : Value} {ys : List UInt8} (h : w.ownsRow base 5 1 v ys.length (ys.map B)) : ∃ a cap, v = .slice a ys.length cap := by
  rcases h.2 with ⟨rfl, h0⟩ | ⟨g, cap, cur, rfl, _⟩
  · exact ⟨none, 0, by rw [h0]⟩
  · exact ⟨_, _, rfl⟩

set_option maxHeartbeats 2000000 in
theorem getT_any (s : ByteArray) (w : World) (hs : s.size ≤ 140737488355328) :
    Calls Tryz.prog 109 #[.string s] w fun e w' =>
      e = .returned (.tuple #[.string ⟨(Nm.getT s.data.toList).1.toArray⟩, .int .i64 (Nm.getT s.data.toList).2.1, .int .i64 (Nm.getT s.data.toList).2.2]) ∧ Below w.heap.size w w' := by
  obtain ⟨i0, hi, hz0, hz1, hz2⟩ := info_parts info_u8
  obtain ⟨G, hG⟩ : ∃ G, Nm.getT s.data.toList = G := ⟨_, rfl⟩
  rw [hG]
  have HG : Hid (Nm.scanT s.data.toList [] 0 = G) := hG
  clear hG
  go_enter Tryz.func109, Tryz.ntmps109
  go_wp2
  go_loopw [5, 6] (fun v i wr => ∃ (k : Nat) (ys : List UInt8), k ≤ s.size ∧ i = .int .i64 k ∧ wr.ownsRow w.heap.size 5 1 v ys.length (ys.map B) ∧
      Hid (Nm.scanT (s.data.toList.drop k) ys k = G) ∧ ys.length ≤ 1024 ∧ Below w.heap.size w wr) (fun _ i _ => s.size - (intOf i).toNat)
  case atStart => exact ⟨0, [], Nat.zero_le _, rfl, World.ownsRow_nil _ _ _ _, HG, by simp, Below.refl _ _⟩
  case round =>
    obtain ⟨k, ys, hk, rfl, hown, HS, hyl, hbel⟩ := hrel
    have hbs := hbel.size
    have hyl2 : ys.length ≤ 1024 := hyl
    by_cases hlt : k < s.size
    · have hb := s[k].toNat_lt
      have hds := drop_byte s k hlt
      generalize hc : s[k] = c at *
      by_cases hz : c = 0
      · subst hz
        by_cases he : k + 1 = s.size
        · have hq1 : ((k : Int) + 1 == (s.size : Int)) = true := by rw [beq_iff_eq]; omega
          have hres : G = ([], 0, 3) := by rw [← HS.out, hds, List.drop_of_length_le (by rw [← Lib.size_eq]; omega)]; exact Nm.scan_end _ _
          subst hres
          clear hds HS HG he
          go_wp2
          go_ret3
          exact ⟨rfl, hbel⟩
        have hlt2 : k + 1 < s.size := by omega
        have hq1 : ((k : Int) + 1 == (s.size : Int)) = false := by rw [beq_eq_false_iff_ne]; omega
        have hds2 := drop_byte s (k + 1) hlt2
        rw [hds2] at hds
        have hb2 := s[k + 1].toNat_lt
        clear hds2
        generalize hd : s[k + 1] = d at *
        by_cases hd0 : d = 0
        · subst hd0
          have hres : G = (ys, k + 2, 0) := by rw [← HS.out, hds]; exact Nm.scan_zeros _ _ _
          subst hres
          have hcv := run_str hown
          clear hds HS HG
          go_wp2
          go_ret3
          exact ⟨rfl, hbel⟩
        have hq2 : ((d.toNat : Int) == 0) = false := byte_ne d 0 hd0
        by_cases hd1 : d = 255
        · subst hd1
          by_cases hf : ys.length = 1024
          · have hq3 : ((ys.length : Int) == 1024) = true := by rw [beq_iff_eq]; omega
            have hres : G = ([], 0, 2) := by rw [← HS.out, hds]; exact Nm.scan_esc_full _ _ _ hf
            subst hres
            obtain ⟨a, cap, rfl⟩ := gt_own_len hown
            clear hds HS HG hf
            go_wp2
            go_ret3
            exact ⟨rfl, hbel⟩
          · have hq3 : ((ys.length : Int) == 1024) = false := by rw [beq_eq_false_iff_ne]; omega
            have HN : Hid (Nm.scanT (s.data.toList.drop (k + 2)) (ys ++ [0]) (k + 2) = G) := by show _ = _; rw [← HS.out, hds]; exact (Nm.scan_esc _ _ _ hf).symm
            obtain ⟨a, cap, rfl⟩ := gt_own_len hown
            clear hds HS HG
            go_wp2_with (at_builtin; refine wpList_append_own _ rfl (.tmp 40) (.tmp 42) 89 rfl w.heap.size 5 i0 (.int .u8 0) 1 1 Tryz.underlying89 hi hz0 hz1 hz2 rfl (by decide) _ _ _ rfl (hown.alloc _) ⟨wr.heap.size, 0, none⟩ 1 1 [.int .u8 0] rfl rfl ?p1 ?p2 ?p3 ?p4 ?p5 ?_)
            case p1 =>
              intro j u hj
              match j, hj with
              | 0, hj => simp at hj; subst hj; simp [Addr.add]
            case p2 => intro u hu; simp at hu; subst hu; rfl
            case p3 => unfold maxLen; omega
            case p4 => omega
            case p5 => simp; omega
            intro v1 w1 hown1 hgrow _
            obtain ⟨hown2, hbel2⟩ := own_more (b := 0) hown hown1 rfl hgrow hbel (Nat.le_refl _)
            clear hown1 hgrow hown hbel
            go_wp2
            go_roundw
            case rel => exact ⟨k + 2, _, by omega, by go_num, hown2, HN, by simp; omega, hbel2⟩
            case measure => simp [intOf]; omega
        · have hq3 : ((d.toNat : Int) != 255) = true := by rw [bne_iff_ne]; intro e; exact hd1 (UInt8.toNat_inj.1 (by simp; omega))
          have hres : G = ([], 0, 4) := by rw [← HS.out, hds]; exact Nm.scan_bad _ _ _ _ hd0 hd1
          subst hres
          clear hds HS HG
          go_wp2
          go_ret3
          exact ⟨rfl, hbel⟩
      · have hq : ((c.toNat : Int) == 0) = false := byte_ne c 0 hz
        by_cases hf : ys.length = 1024
        · have hq3 : ((ys.length : Int) == 1024) = true := by rw [beq_iff_eq]; omega
          have hres : G = ([], 0, 2) := by rw [← HS.out, hds]; exact Nm.scan_full _ _ _ _ hz hf
          subst hres
          obtain ⟨a, cap, rfl⟩ := gt_own_len hown
          clear hds HS HG hf
          go_wp2
          go_ret3
          exact ⟨rfl, hbel⟩
        · have hq3 : ((ys.length : Int) == 1024) = false := by rw [beq_eq_false_iff_ne]; omega
          have HN : Hid (Nm.scanT (s.data.toList.drop (k + 1)) (ys ++ [c]) (k + 1) = G) := by show _ = _; rw [← HS.out, hds]; exact (Nm.scan_byte _ _ _ _ hz hf).symm
          obtain ⟨a, cap, rfl⟩ := gt_own_len hown
          clear hds HS HG
          go_wp2_with (at_builtin; refine wpList_append_own _ rfl (.tmp 40) (.tmp 42) 89 rfl w.heap.size 5 i0 (.int .u8 0) 1 1 Tryz.underlying89 hi hz0 hz1 hz2 rfl (by decide) _ _ _ rfl (hown.alloc _) ⟨wr.heap.size, 0, none⟩ 1 1 [.int .u8 (c.toNat : Int)] rfl rfl ?r1 ?r2 ?r3 ?r4 ?r5 ?_)
          case r1 =>
            intro j u hj
            match j, hj with
            | 0, hj => simp at hj; subst hj; simp [Addr.add]
          case r2 => intro u hu; simp at hu; subst hu; rfl
          case r3 => unfold maxLen; omega
          case r4 => omega
          case r5 => simp; omega
          intro v1 w1 hown1 hgrow _
          obtain ⟨hown2, hbel2⟩ := own_more (b := c) hown hown1 rfl hgrow hbel (Nat.le_refl _)
          clear hown1 hgrow hown hbel
          go_wp2
          go_roundw
          case rel => exact ⟨k + 1, _, by omega, by go_num, hown2, HN, by simp; omega, hbel2⟩
          case measure => simp [intOf]; omega
    · have hres : G = ([], 0, 3) := by rw [← HS.out, List.drop_of_length_le (by rw [← Lib.size_eq]; omega)]; rfl
      subst hres
      clear HS HG
      go_wp2
      go_ret3
      exact ⟨rfl, hbel⟩
end Go.Proofs.YtimdioacmojkeabGreatDoor

namespace Go.Proofs
end Go.Proofs

namespace Go.Proofs.YtimdioacmojkeabGreatDoor
open Go.RowKit

theorem replace_esc (l : List UInt8) : Lib.replaceK [0] [0, 255] (l.count 0) l = Nm.esc l := by
  induction l with
  | nil => rfl
  | cons b l ih =>
    by_cases hb : b = 0
    · subst hb
      rw [List.count_cons_self, Lib.replaceK_hit _ _ _ _ 0 (by rw [Lib.index_one]; rfl)]
      show [0, 255] ++ Lib.replaceK [0] [0, 255] (List.count 0 l) l = _
      rw [ih]; rfl
    · have hne : ¬ (b == (0 : UInt8)) = true := by simpa using hb
      rw [List.count_cons_of_ne hb]
      have he : Nm.esc (b :: l) = b :: Nm.esc l := by simp [Nm.esc, hb]
      rw [he]
      cases hk : List.count 0 l with
      | zero => rw [hk] at ih; rw [← ih]; rfl
      | succ k =>
        rw [hk] at ih
        obtain ⟨i, hi⟩ := Lib.index_of_count (s := l) (old := [0]) (by rw [Lib.count_one, hk]; omega)
        rw [Lib.replaceK_hit _ _ _ _ i hi] at ih
        have hi2 : Lib.index (b :: l) [0] = ((i + 1 : Nat) : Int) := by
          rw [Lib.index_one] at hi ⊢
          unfold Lib.indexByte
          rw [if_neg hne, hi, if_neg (by intro e; have := beq_iff_eq.1 e; omega)]
          omega
        rw [Lib.replaceK_hit _ _ _ _ (i + 1) hi2, List.take_succ_cons, ← ih]
        rfl
theorem replaceAll_esc (l : List UInt8) : Lib.replaceAll l [0] [0, 255] = Nm.esc l := by
  rw [Lib.replaceAll, Lib.replace, if_neg (by decide), Lib.replaceNum, if_pos (.inl (by decide)), Lib.count_one, replace_esc]

theorem one_byte (s : ByteArray) (k : Nat) (h : k < s.size) : s.extract k (k + 1) = ⟨#[s[k]]⟩ := by
  apply ByteArray.ext
  apply Array.ext'
  rw [Lib.extract_data, drop_byte s k h, Nat.add_sub_cancel_left]
  rfl
end Go.Proofs.YtimdioacmojkeabGreatDoor

namespace Go.Proofs.YtimdioacmojkeabGreatDoor
open Go.RowKit

/-- what lies in cell j when k bytes have been turned -/
def turnAt (s : ByteArray) (k j : Nat) : Int := if j < k then 255 - ((s.data.toList.getD j 0).toNat : Int) else ((s.data.toList.getD j 0).toNat : Int)
theorem getD_byteT (s : ByteArray) (j : Nat) (h : j < s.size) : s.data.toList.getD j 0 = s[j] := by
  rw [List.getD_eq_getElem?_getD, List.getElem?_eq_getElem (by simpa using h)]; rfl
theorem turn_step {s : ByteArray} {k B : Nat} {w : World} (hk : k < s.size) (h : ∀ j, j < s.size → w.cell? ⟨B, j, none⟩ = some (.int .u8 (turnAt s k j))) :
    ∀ j, j < s.size → (w.setCell ⟨B, k, none⟩ (.int .u8 (255 - (s[k].toNat : Int)))).cell? ⟨B, j, none⟩ = some (.int .u8 (turnAt s (k + 1) j)) := by
  intro j hj
  by_cases e : j = k
  · subst e
    rw [World.cell?_setCell_same _ _ _ (h j hj), turnAt, if_pos (by omega), getD_byteT s j hj]
  · rw [World.cell?_setCell_other _ _ _ _ (by intro h; exact e (congrArg Addr.off h).symm), h j hj, turnAt, turnAt]
    by_cases hjk : j < k
    · rw [if_pos hjk, if_pos (by omega)]
    · rw [if_neg hjk, if_neg (by omega)]
theorem turn_back (s : ByteArray) (B cap : Nat) (w : World) (h : ∀ j, j < s.size → w.cell? ⟨B, j, none⟩ = some (.int .u8 (turnAt s s.size j))) :
    (convert 89 9 (.slice (some ⟨B, 0, none⟩) s.size cap)).run Tryz.prog w = .ok (.string ⟨(Nm.tn 255 s.data.toList).toArray⟩) w := by
  have hl : (Nm.tn 255 s.data.toList).length = s.size := by rw [Nm.tn_length, ← Lib.size_eq]
  have := run_convert_bytes_back w 89 9 5 ⟨B, 0, none⟩ cap (Nm.tn 255 s.data.toList) (P := Tryz.prog) (by kernel_rfl) (by kernel_rfl) (by kernel_rfl) (by
    intro j hj
    rw [hl] at hj
    have e : (⟨B, 0, none⟩ : Addr).add j = ⟨B, j, none⟩ := by unfold Addr.add; split <;> simp_all
    have hb := s[j].toNat_lt
    have g : (Nm.tn 255 s.data.toList)[j] = s[j] ^^^ UInt8.ofNat 255 := by simp [Nm.tn]; rfl
    rw [e, h j hj, turnAt, if_pos hj, getD_byteT s j hj, g, Nm.not_byte]
    congr 2
    omega)
  rw [hl] at this
  exact this
end Go.Proofs.YtimdioacmojkeabGreatDoor

namespace Go.Proofs.YtimdioacmojkeabGreatDoor
open Go.RowKit

theorem xor255 (b : UInt8) : b ^^^ UInt8.ofNat 255 = 0 ↔ b = 255 := by
  simp

/-- what is said of k digits from the second byte on, turned by t -/
theorem read_mid (s : ByteArray) (k t : Nat) (h8 : k ≤ 8) (hl : 1 + k ≤ s.size) (hd : ¬ (0 < k ∧ s.data.toList.tail.headD 0 ^^^ UInt8.ofNat t = 0)) :
    Nm.readN s.data.toList.tail k t = (Nm.val (Nm.tn t (s.data.toList.tail.take k)), 0) := by
  rw [Nm.readN, if_neg (by omega), if_neg (by rw [tail_length]; omega), if_neg hd]
theorem read_bad (s : ByteArray) (k t : Nat) (h8 : k ≤ 8) (hl : 1 + k ≤ s.size) (hd : 0 < k ∧ s.data.toList.tail.headD 0 ^^^ UInt8.ofNat t = 0) :
    Nm.readN s.data.toList.tail k t = (0, 4) := by
  rw [Nm.readN, if_neg (by omega), if_neg (by rw [tail_length]; omega), if_pos hd]
theorem read_short (s : ByteArray) (k t : Nat) (h8 : k ≤ 8) (hp : 0 < s.size) (hl : s.size < 1 + k) :
    Nm.readN s.data.toList.tail k t = (0, 3) := by
  rw [Nm.readN, if_neg (by omega), if_pos (by rw [tail_length]; omega)]
end Go.Proofs.YtimdioacmojkeabGreatDoor

namespace Go.Proofs.YtimdioacmojkeabGreatDoor
open Go.RowKit

theorem head3 {a b : Int} {c : Int} {a' b' c' : Int} (h1 : a = a') (h2 : b = b') (h3 : c = c') :
    Ending.returned (.tuple #[.int .i64 a, .int .i64 b, .int .i64 c]) = .returned (.tuple #[.int .i64 a', .int .i64 b', .int .i64 c']) := by rw [h1, h2, h3]
end Go.Proofs.YtimdioacmojkeabGreatDoor

namespace Go.Proofs.YtimdioacmojkeabGreatDoor
open Go.RowKit

/-- two nodes in blocks of their own: the answer, and the one that is filled -/
structure R2 (w W : World) (b : Nat) (x0 x1 x2 x3 x4 x5 x6 : Value) : Prop where
  res : W.heap[b]? = some (.cells #[.string ⟨#[]⟩, .int .i64 0, .int .i64 0, .int .i64 0, .int .i64 0, .slice none 0 0, .string ⟨#[]⟩] 80 (0, 0))
  str : W.heap[b + 1]? = some (.cells #[x0, x1, x2, x3, x4, x5, x6] 80 (0, 0))
  bel : Below w.heap.size w W
  at_ : w.heap.size = b

section
variable {w W W' : World} {b : Nat} {x0 x1 x2 x3 x4 x5 x6 y : Value}
theorem R2.past (h : R2 w W b x0 x1 x2 x3 x4 x5 x6) (hb : Below W.heap.size W W') : R2 w W' b x0 x1 x2 x3 x4 x5 x6 :=
  ⟨(hb.block _ (Array.getElem?_eq_some_iff.1 h.res).1).trans h.res, (hb.block _ (Array.getElem?_eq_some_iff.1 h.str).1).trans h.str, h.bel.trans (hb.mono h.bel.size), h.at_⟩

theorem R2.setAt (h : R2 w W b x0 x1 x2 x3 x4 x5 x6) (j : Nat) (y : Value) {y0 y1 y2 y3 y4 y5 y6 : Value} (e : (#[x0, x1, x2, x3, x4, x5, x6] : Array Value).setIfInBounds j y = #[y0, y1, y2, y3, y4, y5, y6]) :
    R2 w (W.setCell ⟨b + 1, j, none⟩ y) b y0 y1 y2 y3 y4 y5 y6 := by
  refine ⟨?_, ?_, h.bel.setCell (p := ⟨b + 1, j, none⟩) (by have := h.at_; simp; omega) _, h.at_⟩
  · rw [Below.heap_setCell _ _ _ _ (by simp)]; exact h.res
  · rw [← e]
    simp [World.setCell, Array.getElem?_modify, h.str]

theorem seven_fz {b : Nat} {T : TypeId} (h : W.heap[b]? = some (.cells #[x0, x1, x2, x3, x4, x5, x6] T (0, 0))) :
    W.frozen? ⟨b, 0, none⟩ = false ∧ W.frozen? ⟨b, 1, none⟩ = false ∧ W.frozen? ⟨b, 2, none⟩ = false ∧ W.frozen? ⟨b, 3, none⟩ = false ∧ W.frozen? ⟨b, 4, none⟩ = false ∧ W.frozen? ⟨b, 5, none⟩ = false ∧ W.frozen? ⟨b, 6, none⟩ = false := by
  refine ⟨?_, ?_, ?_, ?_, ?_, ?_, ?_⟩ <;> simp [World.frozen?, h]

theorem below7 (h : Below w.heap.size w W) (hM : w.heap.size = b) (x0 x1 x2 x3 x4 x5 x6 : Value) :
    Below w.heap.size w (((((((W.setCell ⟨b, 0, none⟩ x0).setCell ⟨b, 1, none⟩ x1).setCell ⟨b, 2, none⟩ x2).setCell ⟨b, 3, none⟩ x3).setCell ⟨b, 4, none⟩ x4).setCell ⟨b, 5, none⟩ x5).setCell ⟨b, 6, none⟩ x6) :=
  ((((((h.setCell (p := ⟨b, 0, none⟩) (Nat.le_of_eq hM) x0).setCell (p := ⟨b, 1, none⟩) (Nat.le_of_eq hM) x1).setCell (p := ⟨b, 2, none⟩) (Nat.le_of_eq hM) x2).setCell (p := ⟨b, 3, none⟩) (Nat.le_of_eq hM) x3).setCell (p := ⟨b, 4, none⟩) (Nat.le_of_eq hM) x4).setCell (p := ⟨b, 5, none⟩) (Nat.le_of_eq hM) x5).setCell (p := ⟨b, 6, none⟩) (Nat.le_of_eq hM) x6

end

/-- what nodeRead answers -/
def RdOut (s : ByteArray) (w : World) (e : Ending) (w' : World) : Prop :=
  Below w.heap.size w w' ∧
  (((Td.rdOne s.data.toList).2.2 ≠ 0 ∧ ∃ (n : Nod) (a : Option Addr) (m c : Nat), e = .returned (.tuple #[ndV n (.slice a m c), .string ⟨#[]⟩, .int .i64 (Td.rdOne s.data.toList).2.2])) ∨
   ∃ (n : Nod) (v : Value), (Td.rdOne s.data.toList) = (n.nd, (Td.rdOne s.data.toList).2.1, 0) ∧ e = .returned (.tuple #[ndV n v, .string ⟨(Td.rdOne s.data.toList).2.1.toArray⟩, .int .i64 0]) ∧ Rx 8 idC w' v n.parts ∧
    (∀ a m c, v = .slice (some a) m c → ∃ cur fr, w'.heap[a.block]? = some (.cells cur 30 fr)) ∧ n.Ok ∧ n.name.size ≤ 1024)

theorem ext_str (s : ByteArray) (k : Nat) : s.extract k s.size = ⟨(s.data.toList.drop k).toArray⟩ := by
  apply ByteArray.ext
  apply Array.toList_inj.1
  rw [Nn.ext_drop']

/-! the reading in stages -/
namespace Td
def rdK (t : Bs) (kd md : Nat) (i : Int) (sz np : Nat) (l : Bs) : Nd × Bs × Int :=
  if l.length < 8 * np then (nd0, [], 3) else
  let k := Nm.getT (l.drop (8 * np))
  if k.2.2 ≠ 0 then (nd0, [], k.2.2) else
  (⟨t, kd, md, i, sz, eights np l, k.1⟩, (l.drop (8 * np)).drop k.2.1, 0)

def rdP (t : Bs) (kd md : Nat) (i : Int) (sz : Nat) (l : Bs) : Nd × Bs × Int := let p := num 300 l; if p.2.2 ≠ 0 then (nd0, [], p.2.2) else rdK t kd md i sz p.1 p.2.1

def rdZ (t : Bs) (kd md : Nat) (i : Int) (l : Bs) : Nd × Bs × Int := let z := num 4096 l; if z.2.2 ≠ 0 then (nd0, [], z.2.2) else rdP t kd md i z.1 z.2.1

def rdI (t : Bs) (kd md : Nat) (l : Bs) : Nd × Bs × Int := let i := Nm.getI l; if i.2.2 ≠ 0 then (nd0, [], i.2.2) else rdZ t kd md i.1 (l.drop i.2.1)

def rdM (t : Bs) (kd : Nat) (l : Bs) : Nd × Bs × Int := let m := num 511 l; if m.2.2 ≠ 0 then (nd0, [], m.2.2) else rdI t kd m.1 m.2.1

theorem rdOne_M {s t : Bs} {kt : Nat} (h1 : Nm.getT s = (t, kt, 0)) (h2 : s.drop kt ≠ []) : rdOne s = rdM t ((s.drop kt).headD 0).toNat (s.drop kt).tail := by
  unfold rdOne
  rw [h1]
  simp only [ne_eq, not_true, if_false, if_neg h2]
  rfl

theorem num_len (most : Nat) (s : Bs) : (num most s).2.1.length ≤ s.length := by
  unfold num
  simp only
  split
  · simp
  · split
    · simp
    · simp

theorem num_most {most : Nat} {s : Bs} {n : Nat} {r : Bs} {e : Int} (h : num most s = (n, r, e)) : n ≤ most := by
  unfold num at h
  simp only at h
  split at h
  · have := congrArg (fun q => q.1) h
    simp at this
    omega
  · split at h
    · have := congrArg (fun q => q.1) h
      simp at this
      omega
    · have := congrArg (fun q => q.1) h
      simp at this
      omega

theorem num_zero {most : Nat} {s : Bs} {n : Nat} {r : Bs} {e : Int} (h : num most s = (n, r, e)) (he : e ≠ 0) : r = [] := by
  unfold num at h
  simp only at h
  split at h
  · exact (congrArg (fun q => q.2.1) h).symm
  · split at h
    · exact (congrArg (fun q => q.2.1) h).symm
    · exact absurd (congrArg (fun q => q.2.2) h).symm he

theorem rdM_err {t l r : Bs} {kd n : Nat} {e : Int} (h : num 511 l = (n, r, e)) (he : e ≠ 0) : (rdM t kd l).2.2 = e := by unfold rdM; rw [h]; simp only [if_pos he]

theorem rdM_ok {t l r : Bs} {kd n : Nat} (h : num 511 l = (n, r, 0)) : rdM t kd l = rdI t kd n r := by unfold rdM; rw [h]; simp only [ne_eq, not_true, if_false]

theorem rdI_err {t l : Bs} {kd md k : Nat} {i e : Int} (h : Nm.getI l = (i, k, e)) (he : e ≠ 0) : (rdI t kd md l).2.2 = e := by unfold rdI; rw [h]; simp only [if_pos he]

theorem rdI_ok {t l : Bs} {kd md k : Nat} {i : Int} (h : Nm.getI l = (i, k, 0)) : rdI t kd md l = rdZ t kd md i (l.drop k) := by unfold rdI; rw [h]; simp only [ne_eq, not_true, if_false]

theorem rdZ_err {t l r : Bs} {kd md n : Nat} {i e : Int} (h : num 4096 l = (n, r, e)) (he : e ≠ 0) : (rdZ t kd md i l).2.2 = e := by unfold rdZ; rw [h]; simp only [if_pos he]

theorem rdZ_ok {t l r : Bs} {kd md n : Nat} {i : Int} (h : num 4096 l = (n, r, 0)) : rdZ t kd md i l = rdP t kd md i n r := by unfold rdZ; rw [h]; simp only [ne_eq, not_true, if_false]

theorem rdP_err {t l r : Bs} {kd md sz n : Nat} {i e : Int} (h : num 300 l = (n, r, e)) (he : e ≠ 0) : (rdP t kd md i sz l).2.2 = e := by unfold rdP; rw [h]; simp only [if_pos he]

theorem rdP_ok {t l r : Bs} {kd md sz n : Nat} {i : Int} (h : num 300 l = (n, r, 0)) : rdP t kd md i sz l = rdK t kd md i sz n r := by unfold rdP; rw [h]; simp only [ne_eq, not_true, if_false]

theorem rdK_short {t l : Bs} {kd md sz np : Nat} {i : Int} (h : l.length < 8 * np) : (rdK t kd md i sz np l).2.2 = 3 := by unfold rdK; rw [if_pos h]

theorem rdK_err {t l k : Bs} {kd md sz np kk : Nat} {i e : Int} (h : ¬ l.length < 8 * np) (hk : Nm.getT (l.drop (8 * np)) = (k, kk, e)) (he : e ≠ 0) : (rdK t kd md i sz np l).2.2 = e := by unfold rdK; rw [if_neg h, hk]; simp only [if_pos he]

theorem rdK_ok {t l k : Bs} {kd md sz np kk : Nat} {i : Int} (h : ¬ l.length < 8 * np) (hk : Nm.getT (l.drop (8 * np)) = (k, kk, 0)) : rdK t kd md i sz np l = (⟨t, kd, md, i, sz, eights np l, k⟩, (l.drop (8 * np)).drop kk, 0) := by
  unfold rdK; rw [if_neg h, hk]; simp only [ne_eq, not_true, if_false]

theorem eights_more : ∀ (j : Nat) (l : Bs), eights (j + 1) l = eights j l ++ [(l.drop (8 * j)).take 8]
  | 0, l => rfl
  | j + 1, l => by
    rw [eights, eights_more j (l.drop 8), List.drop_drop, show 8 + 8 * j = 8 * (j + 1) from by omega]
    rfl

end Td

theorem eight_of8 {t : List UInt8} (h : t.length = 8) : ∃ b0 b1 b2 b3 b4 b5 b6 b7, t = [b0, b1, b2, b3, b4, b5, b6, b7] := by
  match t, h with
  | [b0, b1, b2, b3, b4, b5, b6, b7], _ => exact ⟨b0, b1, b2, b3, b4, b5, b6, b7, rfl⟩

theorem own_ge {base : Nat} {e : TypeId} {k : Nat} {v : Value} {n : Nat} {xs : List Value} {w : World} (h : w.ownsRow base e k v n xs) {g : Nat} (hg : v.ownBlock = some g) : base ≤ g := by
  obtain ⟨_, _, q, _⟩ := own_block h hg
  exact q

theorem own_more8 {w : World} {b n : Nat} {v : Value} {es es' : List (List UInt8)} {x : List UInt8} (h : w.ownsRow (b + 2) 30 8 v n (rowR idC es ++ idC x)) (he : es' = es ++ [x]) (y : Value) :
    (w.setCell ⟨b + 1, 5, none⟩ y).ownsRow (b + 2) 30 8 v n (rowR idC es') := by
  subst he
  rw [rowR_more]
  exact own_kept h ((Kept.refl (fun k => k ≠ b + 1) w).setCell (by simp) _) fun g hg => by have := own_ge h hg; omega

theorem rx_sub {w : World} {v : Value} {L : List { x : List UInt8 // x.length = 8 }} (hr : Rx 8 (fun x : { x : List UInt8 // x.length = 8 } => idC x.1) w v L) : Rx 8 idC w v (L.map (·.1)) := by
  refine ⟨?_, hr.room⟩
  rcases hr.at_ with ⟨h1, rfl⟩ | ⟨bk, o, cp, h1, h2, h3⟩
  · exact .inl ⟨h1, rfl⟩
  · refine .inr ⟨bk, o, cp, by rw [List.length_map]; exact h1, h2, fun j t hj r u hu => ?_⟩
    rw [List.getElem?_map] at hj
    cases e : L[j]? with
    | none => rw [e] at hj; simp at hj
    | some q =>
      rw [e] at hj
      obtain rfl : q.1 = t := by simpa using hj
      exact h3 j q e r u hu

theorem rx_own {base : Nat} {w : World} {v : Value} {n : Nat} {l : List (List UInt8)} (h : w.ownsRow base 30 8 v n (rowR idC l)) (hn : l.length = n) (h8 : ∀ t ∈ l, t.length = 8) : Rx 8 idC w v l := by
  obtain ⟨L, rfl⟩ : ∃ L : List { x : List UInt8 // x.length = 8 }, l = L.map (·.1) := ⟨l.attach.map (fun x => ⟨x.1, h8 x.1 x.2⟩), by simp [List.map_map, Function.comp_def]⟩
  refine rx_sub (Rx.of_own (base := base) (T := 30) (fun t => by rw [idC, List.length_map, t.2]) ?_)
  have e : rowR (fun x : { x : List UInt8 // x.length = 8 } => idC x.1) L = rowR idC (L.map (·.1)) := by simp [rowR]
  rw [e]
  rw [List.length_map] at hn
  rw [hn]
  exact h

theorem own_type {base n k : Nat} {T : TypeId} {w : World} {v : Value} {xs : List Value} (h : w.ownsRow base T k v n xs) : ∀ a m c, v = .slice (some a) m c → ∃ cur fr, w.heap[a.block]? = some (.cells cur T fr) := by
  intro a m c e
  rcases h.2 with ⟨rfl, _⟩ | ⟨g, cap, cur, rfl, hg, hh, _⟩
  · cases e
  · cases e
    exact ⟨_, _, hh⟩

theorem kept7 (W : World) (b : Nat) (x0 x1 x2 x3 x4 x5 x6 : Value) : Kept (fun k => k ≠ b) W (((((((W.setCell ⟨b, 0, none⟩ x0).setCell ⟨b, 1, none⟩ x1).setCell ⟨b, 2, none⟩ x2).setCell ⟨b, 3, none⟩ x3).setCell ⟨b, 4, none⟩ x4).setCell ⟨b, 5, none⟩ x5).setCell ⟨b, 6, none⟩ x6) :=
  (((((((Kept.refl (fun k => k ≠ b) W).setCell (a := ⟨b, 0, none⟩) (by simp) x0).setCell (a := ⟨b, 1, none⟩) (by simp) x1).setCell (a := ⟨b, 2, none⟩) (by simp) x2).setCell (a := ⟨b, 3, none⟩) (by simp) x3).setCell (a := ⟨b, 4, none⟩) (by simp) x4).setCell (a := ⟨b, 5, none⟩) (by simp) x5).setCell (a := ⟨b, 6, none⟩) (by simp) x6

theorem wf_i {n : Int} (h0 : -9223372036854775808 ≤ n) (h1 : n ≤ 9223372036854775807) : (Lit.int .i64 n).wf = true := by
  simp [Lit.wf, IntKind.min, IntKind.max, IntKind.signed, IntKind.bits]
  omega

theorem R2.grown {w W W' : World} {b : Nat} {x0 x1 x2 x3 x4 x5 x6 : Value} {row : Option Nat} (h : R2 w W b x0 x1 x2 x3 x4 x5 x6) (hg : W.grownBy W' row) (hr : ∀ g, row = some g → b + 2 ≤ g) : R2 w W' b x0 x1 x2 x3 x4 x5 x6 :=
  ⟨(hg.block b (Array.getElem?_eq_some_iff.1 h.res).1 fun e => by have := hr b e.symm; omega).trans h.res, (hg.block (b + 1) (Array.getElem?_eq_some_iff.1 h.str).1 fun e => by have := hr (b + 1) e.symm; omega).trans h.str,
    h.bel.grown hg h.bel.size fun g hgb => by have := hr g hgb; have := h.at_; omega, h.at_⟩

theorem info_id : (Tryz.prog.info? 30).map (fun i => (i.zero, i.size, i.bytes)) = some (some (.agg #[.int .u8 0, .int .u8 0, .int .u8 0, .int .u8 0, .int .u8 0, .int .u8 0, .int .u8 0, .int .u8 0]), 8, 8) := by kernel_rfl

theorem eight_new (W : World) (v0 v1 v2 v3 v4 v5 v6 v7 : Value) {T : TypeId} : ∀ j u, [v0, v1, v2, v3, v4, v5, v6, v7][j]? = some u → (W.alloc (.cells #[v0, v1, v2, v3, v4, v5, v6, v7] T)).cell? ((⟨W.heap.size, 0, none⟩ : Addr).add j) = some u := by
  intro j u hj
  rw [show ((⟨W.heap.size, 0, none⟩ : Addr).add j) = ⟨W.heap.size, j, none⟩ from by unfold Addr.add; split <;> simp_all]
  match j, hj with
  | 0, hj => simp at hj; subst hj; simp
  | 1, hj => simp at hj; subst hj; simp
  | 2, hj => simp at hj; subst hj; simp
  | 3, hj => simp at hj; subst hj; simp
  | 4, hj => simp at hj; subst hj; simp
  | 5, hj => simp at hj; subst hj; simp
  | 6, hj => simp at hj; subst hj; simp
  | 7, hj => simp at hj; subst hj; simp

theorem R2.drew {w W : World} {b : Nat} {x0 x1 x2 x3 x4 x5 x6 : Value} (h : R2 w W b x0 x1 x2 x3 x4 x5 x6) : R2 w W.drew b x0 x1 x2 x3 x4 x5 x6 := ⟨h.res, h.str, h.bel.drew, h.at_⟩
end Go.Proofs.YtimdioacmojkeabGreatDoor

namespace Go.Proofs.YtimdioacmojkeabGreatDoor
open Go.RowKit

/-- a node whose IDs lie in a block of IDs -/
def NdG (w : World) (n : Nod) (c : List Value) : Prop := ∃ v, c = ndC n v ∧ Rx 8 idC w v n.parts ∧ (∀ a m c, v = .slice (some a) m c → ∃ cur fr, w.heap[a.block]? = some (.cells cur 30 fr)) ∧ n.Ok

theorem NdG.kt {w W : World} {n : Nod} {c : List Value} (hk : Kt 80 w W) (h : NdG w n c) : NdG W n c := by
  obtain ⟨v, e, hr, ht, ho⟩ := h
  refine ⟨v, e, ⟨?_, hr.room⟩, fun a m c hv => ?_, ho⟩
  · rcases hr.at_ with h1 | ⟨bk, o, cap, h1, h2, h3⟩
    · exact .inl h1
    · obtain ⟨cur, fr, hb⟩ := ht _ _ _ h1
      have hb' := hk.cell hb (by decide)
      refine .inr ⟨bk, o, cap, h1, Nat.lt_of_lt_of_le h2 hk.size, fun j t hj r u hu => ?_⟩
      rw [← h3 j t hj r u hu]
      simp only [World.cell?] at hb hb' ⊢
      rw [hb, hb']
  · obtain ⟨cur, fr, hb⟩ := ht a m c hv
    exact ⟨cur, fr, hk.cell hb (by decide)⟩

theorem NdG.below {w W : World} {n : Nod} {c : List Value} (hb : Below w.heap.size w W) (h : NdG w n c) : NdG W n c := NdG.kt (Kt.of_below hb) h

theorem NdG.r {w : World} {n : Nod} {c : List Value} (h : NdG w n c) : NdR w n c := by
  obtain ⟨v, e, hr, _, ho⟩ := h
  exact ⟨v, e, hr, ho⟩

theorem Nds.of_oy {base : Nat} {w : World} {v : Value} {l : List Nod} (h : Oy 7 80 NdG base w v l) : Nds w v l := by
  rcases (Rw.of_ry h.ry).at_ with h1 | ⟨bk, o, cap, h1, h2, h3, h4⟩
  · exact ⟨.inl h1⟩
  · refine ⟨.inr ⟨bk, o, cap, h1, h2, h3, fun j t hj => ?_⟩⟩
    obtain ⟨c, c1, c2, c3⟩ := h4 j t hj
    exact ⟨c, c1, c2.r, c3⟩

theorem info_nd : (Tryz.prog.info? 80).map (fun i => (i.zero, i.size, i.bytes)) = some (some (.agg #[.string ⟨#[]⟩, .int .i64 0, .int .i64 0, .int .i64 0, .int .i64 0, .slice none 0 0, .string ⟨#[]⟩]), 7, 88) := by kernel_rfl

theorem below7' {w W : World} {B b : Nat} (h : Below B w W) (hM : B ≤ b) (x0 x1 x2 x3 x4 x5 x6 : Value) :
    Below B w (((((((W.setCell ⟨b, 0, none⟩ x0).setCell ⟨b, 1, none⟩ x1).setCell ⟨b, 2, none⟩ x2).setCell ⟨b, 3, none⟩ x3).setCell ⟨b, 4, none⟩ x4).setCell ⟨b, 5, none⟩ x5).setCell ⟨b, 6, none⟩ x6) :=
  ((((((h.setCell (p := ⟨b, 0, none⟩) hM x0).setCell (p := ⟨b, 1, none⟩) hM x1).setCell (p := ⟨b, 2, none⟩) hM x2).setCell (p := ⟨b, 3, none⟩) hM x3).setCell (p := ⟨b, 4, none⟩) hM x4).setCell (p := ⟨b, 5, none⟩) hM x5).setCell (p := ⟨b, 6, none⟩) hM x6

theorem set_seven {W : World} {b : Nat} {T : TypeId} {y0 y1 y2 y3 y4 y5 y6 : Value} (h : W.heap[b]? = some (.cells #[y0, y1, y2, y3, y4, y5, y6] T (0, 0))) (x0 x1 x2 x3 x4 x5 x6 : Value) :
    (((((((W.setCell ⟨b, 0, none⟩ x0).setCell ⟨b, 1, none⟩ x1).setCell ⟨b, 2, none⟩ x2).setCell ⟨b, 3, none⟩ x3).setCell ⟨b, 4, none⟩ x4).setCell ⟨b, 5, none⟩ x5).setCell ⟨b, 6, none⟩ x6).heap[b]? = some (.cells #[x0, x1, x2, x3, x4, x5, x6] T (0, 0)) := by
  simp [World.setCell, Array.getElem?_modify, h]

theorem kt_any {T : TypeId} {W : World} {b : Nat} (h : ∃ cur fr, W.heap[b]? = some (.cells cur T fr)) (j : Nat) (x : Value) : Kt T W (W.setCell ⟨b, j, none⟩ x) ∧ ∃ cur fr, (W.setCell ⟨b, j, none⟩ x).heap[b]? = some (.cells cur T fr) := by
  obtain ⟨cur, fr, h⟩ := h
  refine ⟨Kt.set h j x, ?_⟩
  simp [World.setCell, Array.getElem?_modify, h]

theorem kt_seven {W : World} {b : Nat} {T : TypeId} {cur : Array Value} {fr : Nat × Nat} (h : W.heap[b]? = some (.cells cur T fr)) (x0 x1 x2 x3 x4 x5 x6 : Value) :
    Kt T W (((((((W.setCell ⟨b, 0, none⟩ x0).setCell ⟨b, 1, none⟩ x1).setCell ⟨b, 2, none⟩ x2).setCell ⟨b, 3, none⟩ x3).setCell ⟨b, 4, none⟩ x4).setCell ⟨b, 5, none⟩ x5).setCell ⟨b, 6, none⟩ x6) := by
  obtain ⟨k0, h0⟩ := kt_any ⟨_, _, h⟩ 0 x0
  obtain ⟨k1, h1⟩ := kt_any h0 1 x1
  obtain ⟨k2, h2⟩ := kt_any h1 2 x2
  obtain ⟨k3, h3⟩ := kt_any h2 3 x3
  obtain ⟨k4, h4⟩ := kt_any h3 4 x4
  obtain ⟨k5, h5⟩ := kt_any h4 5 x5
  obtain ⟨k6, _⟩ := kt_any h5 6 x6
  exact (((((k0.trans k1).trans k2).trans k3).trans k4).trans k5).trans k6

theorem seven_new (W : World) (v0 v1 v2 v3 v4 v5 v6 : Value) {T : TypeId} : ∀ j u, [v0, v1, v2, v3, v4, v5, v6][j]? = some u → (W.alloc (.cells #[v0, v1, v2, v3, v4, v5, v6] T)).cell? ((⟨W.heap.size, 0, none⟩ : Addr).add j) = some u := by
  intro j u hj
  rw [show ((⟨W.heap.size, 0, none⟩ : Addr).add j) = ⟨W.heap.size, j, none⟩ from by unfold Addr.add; split <;> simp_all]
  match j, hj with
  | 0, hj => simp at hj; subst hj; simp
  | 1, hj => simp at hj; subst hj; simp
  | 2, hj => simp at hj; subst hj; simp
  | 3, hj => simp at hj; subst hj; simp
  | 4, hj => simp at hj; subst hj; simp
  | 5, hj => simp at hj; subst hj; simp
  | 6, hj => simp at hj; subst hj; simp

/-- what TreeRead answers -/
def TrOut (s : ByteArray) (w : World) (e : Ending) (w' : World) : Prop :=
  ∃ v l, e = .returned (.tuple #[v, .int .i64 (Td.read s.data.toList).2]) ∧ nds l = (Td.read s.data.toList).1 ∧ Nds w' v l ∧ l.length ≤ 64 ∧ (∀ n ∈ l, n.name.size ≤ 1024) ∧ Below w.heap.size w w'

theorem Td.rdAll_step {m : Nat} {s : Td.Bs} {out : List Td.Nd} {RES : List Td.Nd × Int} (h : Td.rdAll (m + 1) s out = RES) : ((Td.rdOne s).2.2 ≠ 0 → RES = ([], (Td.rdOne s).2.2)) ∧ ((Td.rdOne s).2.2 = 0 → Td.rdAll m (Td.rdOne s).2.1 (out ++ [(Td.rdOne s).1]) = RES) := by
  rw [Td.rdAll] at h
  refine ⟨fun he => ?_, fun he => ?_⟩
  · rw [if_pos he] at h; exact h.symm
  · rw [if_neg (fun k => k he)] at h; exact h
end Go.Proofs.YtimdioacmojkeabGreatDoor

namespace Go.Proofs.YtimdioacmojkeabGreatDoor
open Go.RowKit
set_option maxRecDepth 4000

/-- the planter behind at most c blobs -/
def Pq (base b m : Nat) (fx mn mx bt : Int) (c : Nat) (w : World) (left : List Im) (bs : List Blb) : Prop := bs.length ≤ c ∧ ∃ n, n ≤ c ∧ Plt base b m fx mn mx bt w left bs n

theorem Pq.below {base b m : Nat} {fx mn mx bt : Int} {c : Nat} {w w' : World} {left : List Im} {bs : List Blb} (h : Pq base b m fx mn mx bt c w left bs) (hb : Below w.heap.size w w') : Pq base b m fx mn mx bt c w' left bs := by
  obtain ⟨h1, n, h2, h3⟩ := h
  exact ⟨h1, n, h2, h3.below hb⟩

theorem Pq.mono {base b m : Nat} {fx mn mx bt : Int} {c c' : Nat} {w : World} {left : List Im} {bs : List Blb} (h : Pq base b m fx mn mx bt c w left bs) (hc : c ≤ c') : Pq base b m fx mn mx bt c' w left bs := by
  obtain ⟨h1, n, h2, h3⟩ := h
  exact ⟨by omega, n, by omega, h3⟩

theorem Pq.base {base b m : Nat} {fx mn mx bt : Int} {c : Nat} {w : World} {left : List Im} {bs : List Blb} (h : Pq base b m fx mn mx bt c w left bs) : base ≤ w.heap.size := by
  obtain ⟨h1, n, h2, h3⟩ := h
  obtain ⟨lv, bv, p1, _⟩ := h3.ex
  have := (Array.getElem?_eq_some_iff.1 p1).1
  have := h3.at_
  omega

theorem tell_q (base b m c : Nat) (fx mn mx bt : Int) (left : List Im) (bs : List Blb) (x : Blb) (w : World) (h : Pq base b m fx mn mx bt c w left bs) (hc : c < 1000000000) (hx : x.bytes.size ≤ 9223372036854775807) :
    Calls Tryz.prog 35 #[.pointer (some ⟨b, 0, none⟩), blV x] w fun e w' => e = .returned (.tuple #[idV (idI bs x), .int .i64 (errI bs x)]) ∧ Pq base b m fx mn mx bt (c + 1) w' left (more bs x) ∧ Pf base w w' := by
  obtain ⟨h1, n, h2, h3⟩ := h
  refine (tell_any base b m n fx mn mx bt left bs x w h3 (by omega) (by omega) hx).mono ?_
  rintro e w' ⟨he, ⟨n', hn', hp⟩, hf⟩
  have := more_length bs x
  exact ⟨he, ⟨by omega, n', by omega, hp⟩, hf⟩

theorem own_pf {base base' : Nat} {e : TypeId} {k : Nat} {v : Value} {n : Nat} {xs : List Value} {w w' : World} (h : w.ownsRow base' e k v n xs) (hk : Pf base w w') (h1 : e ≠ 42) (h2 : e ≠ 58) : w'.ownsRow base' e k v n xs :=
  own_ko h hk.ko fun _ _ => ⟨h1, h2⟩

theorem own_kt {base' : Nat} {T e : TypeId} {k : Nat} {v : Value} {n : Nat} {xs : List Value} {w w' : World} (h : w.ownsRow base' e k v n xs) (hk : Kt T w w') (hne : e ≠ T) : w'.ownsRow base' e k v n xs := by
  obtain ⟨h1, h2⟩ := h
  refine ⟨h1, ?_⟩
  rcases h2 with h2 | ⟨g, cap, cur, hv, hg, hh, r⟩
  · exact .inl h2
  · exact .inr ⟨g, cap, cur, hv, hg, hk.cell hh hne, r⟩

/-- the planter stays while rows of another type grow -/
theorem Plt.kt {T : TypeId} {base b m n : Nat} {fx mn mx bt : Int} {w w' : World} {left : List Im} {bs : List Blb} (h : Plt base b m fx mn mx bt w left bs n) (hk : Kt T w w') (hl : Below base w w') (h1 : 42 ≠ T) (h2 : 58 ≠ T) : Plt base b m fx mn mx bt w' left bs n := by
  obtain ⟨⟨lv, bv, p1, p2, p3, p4⟩, hm, ha, hc⟩ := h
  exact ⟨⟨lv, bv, hk.cell p1 h2, p2.keepb hl p3, p3, own_kt p4 hk h1⟩, hm.obj fun es c ho => hk.obj _ _ ho (fun ⟨_, _, e⟩ => by cases e), ha, hc⟩

theorem Pq.kt {T : TypeId} {base b m c : Nat} {fx mn mx bt : Int} {w w' : World} {left : List Im} {bs : List Blb} (h : Pq base b m fx mn mx bt c w left bs) (hk : Kt T w w') (hl : Below base w w') (h1 : 42 ≠ T) (h2 : 58 ≠ T) : Pq base b m fx mn mx bt c w' left bs := by
  obtain ⟨q1, n, q2, q3⟩ := h
  exact ⟨q1, n, q2, q3.kt hk hl h1 h2⟩

/-- what is made later may change -/
theorem Pf.then {base : Nat} {w w3 w6 : World} (h : Pf base w w3) (hb : Below w.heap.size w3 w6) (hbase : base ≤ w.heap.size) : Pf base w w6 :=
  ⟨h.low.trans (hb.mono hbase), ⟨hb.os.trans h.ko.os, hb.tape.trans h.ko.tape, hb.output.trans h.ko.output, Nat.le_trans h.ko.size hb.size, fun k o ho hp => (hb.block k (Array.getElem?_eq_some_iff.1 ho).1).trans (h.ko.obj k o ho hp)⟩⟩

def mkB (p : List UInt8) : ByteArray := ⟨p.toArray⟩

theorem sv_tv (P : List Ck.Bs) : P.map Sv = (P.map mkB).map Tv := by
  rw [List.map_map]
  rfl

/-- what pieces leaves, when k of them have been told -/
theorem pieces_step {P : List Wk.Bs} {k : Nat} {p : Wk.Bs} (hp : P[k]? = some p) {bs : List Blb} {T : List Pk.Bl × List Wk.Bs × Int} {done : List Wk.Bs}
    (h : T = ((Wk.pieces (P.drop k) (pl bs)).1, done ++ (Wk.pieces (P.drop k) (pl bs)).2.1, (Wk.pieces (P.drop k) (pl bs)).2.2)) :
    (errI bs ⟨1, mkB p⟩ ≠ 0 → T.2.2 = errI bs ⟨1, mkB p⟩) ∧
    (errI bs ⟨1, mkB p⟩ = 0 → T = ((Wk.pieces (P.drop (k + 1)) (pl (more bs ⟨1, mkB p⟩))).1, (done ++ [idI bs ⟨1, mkB p⟩]) ++ (Wk.pieces (P.drop (k + 1)) (pl (more bs ⟨1, mkB p⟩))).2.1, (Wk.pieces (P.drop (k + 1)) (pl (more bs ⟨1, mkB p⟩))).2.2)) := by
  have hlt := (List.getElem?_eq_some_iff.1 hp).1
  have e0 : P.drop k = p :: P.drop (k + 1) := by
    rw [List.drop_eq_getElem_cons hlt, (List.getElem?_eq_some_iff.1 hp).2]
  rw [e0, Wk.pieces] at h
  have eb : (⟨1, mkB p⟩ : Blb).p = (1, p) := rfl
  constructor
  · intro hE
    have hE' : (Wk.into (pl bs) (1, p)).2.2 ≠ 0 := hE
    rw [h]
    dsimp only
    rw [if_pos hE']
    rfl
  · intro hE
    have hm := more_pl hE
    rw [eb] at hm
    rw [hm] at h
    rw [h]
    have hi : idI bs ⟨1, mkB p⟩ = Pk.bid (1, p) := by unfold idI; rw [if_pos hE]; rfl
    rw [hi]
    simp

set_option maxHeartbeats 4000000 in
set_option maxRecDepth 10000 in
theorem file_any (base b m c : Nat) (fx mn mx bt : Int) (left : List Im) (bs : List Blb) (s : ByteArray) (w : World) (h : Pq base b m fx mn mx bt c w left bs) (hc : c < 900000000) (hw : wayN fx mn mx bt = 0) (hs : s.size ≤ 4096) (R : List Pk.Bl × List Wk.Bs × Int) (hR : R = Wk.pieces (cutF fx mn mx bt s.data.toList) (pl bs)) :
    Calls Tryz.prog 51 #[.pointer (some ⟨b, 0, none⟩), .string s] w fun e w' => ∃ v, e = .returned (.tuple #[v, .int .i64 R.2.2]) ∧ Pf base w w' ∧
      (R.2.2 ≠ 0 → v = .slice none 0 0) ∧ (R.2.2 = 0 → w'.ownsRow w.heap.size 30 8 v R.2.1.length (rowR idC R.2.1) ∧ (∀ t ∈ R.2.1, t.length = 8) ∧ R.2.1.length ≤ 257 ∧ ∃ bs', pl bs' = R.1 ∧ Pq base b m fx mn mx bt (c + 257) w' left bs') := by
  obtain ⟨i0, hi, hz0, hz1, hz2⟩ := info_of' info_id
  have hcut := wcut_any fx mn mx bt s w
  have hPn : (cutW fx mn mx bt s).length ≤ 257 := by
    have := cutF_few hw s.data.toList (by rw [← Lib.size_eq]; exact hs)
    have hsz : s.data.toList.length = s.size := (Lib.size_eq s).symm
    rw [hsz] at this
    have : (cutW fx mn mx bt s).length ≤ s.size / 16 + 1 := this
    omega
  have HPs : Hid (∀ p ∈ cutW fx mn mx bt s, (mkB p).size ≤ 9223372036854775807) := fun p hp => by
    have hj := cutF_join hw s.data.toList (by rw [← Lib.size_eq]; exact hs)
    have hp' : p ∈ cutF fx mn mx bt s.data.toList := hp
    have : p.length ≤ s.size := by
      have := mem_flat hp'
      rw [hj, ← Lib.size_eq] at this
      exact this
    rw [mkB, Lib.size_eq]
    simp
    omega
  rw [cutF_of] at hR
  generalize cutW fx mn mx bt s = P at *
  have HT0 : Hid (R = ((Wk.pieces (P.drop 0) (pl bs)).1, [] ++ (Wk.pieces (P.drop 0) (pl bs)).2.1, (Wk.pieces (P.drop 0) (pl bs)).2.2)) := by
    show _ = _
    rw [hR]; simp
  have HQ0 : Hid (Pq base b m fx mn mx bt (c + 0) w left bs) := h
  have hbase := h.base
  obtain ⟨_, n, _, h3⟩ := h
  obtain ⟨lv, bv, p1, _⟩ := h3.ex
  obtain ⟨d0, d1, d2, d3, _, _, _, dlt⟩ := sev_at p1
  clear hR h3 p1 hw
  go_enter Tryz.func51, Tryz.ntmps51
  go_wp2_with fail
  refine hcut.mono ?_
  rintro e w1 ⟨v1, rfl, o1, b1⟩
  have HO1 : Hid (w1.ownsRow (w.heap.size + 1) 9 1 v1 P.length (P.map Sv)) := o1
  have HQ1 : Hid (Pq base b m fx mn mx bt (c + 0) w1 left bs) := HQ0.out.below b1
  have HF1 : Hid (Pf base w w1) := Pf.of_below b1 hbase
  obtain ⟨a1, c1, rfl⟩ := own_form o1
  obtain ⟨N, hN⟩ : ∃ N, N = P.length := ⟨_, rfl⟩
  have HN : Hid (N = P.length) := hN
  rw [← hN] at HO1 hPn ⊢
  clear hcut o1 b1 HQ0 d0 d1 d2 d3 dlt hN
  go_wp2_with fail
  go_loopw [6, 18] (fun v i wr => ∃ (k : Nat) (done : List Wk.Bs) (bk : List Blb), k ≤ N ∧ i = .int .i64 k ∧ done.length = k ∧
    Hid (R = ((Wk.pieces (P.drop k) (pl bk)).1, done ++ (Wk.pieces (P.drop k) (pl bk)).2.1, (Wk.pieces (P.drop k) (pl bk)).2.2)) ∧ Hid (Pq base b m fx mn mx bt (c + k) wr left bk) ∧
    Hid (wr.ownsRow w.heap.size 30 8 v k (rowR idC done)) ∧ Hid (∀ t ∈ done, t.length = 8) ∧ Hid (Pf base w wr) ∧ Hid (wr.ownsRow (w.heap.size + 1) 9 1 (.slice a1 N c1) N (P.map Sv))) (fun _ i _ => N - (intOf i).toNat)
  case atStart => exact ⟨0, [], bs, by omega, rfl, rfl, HT0, HQ1, World.ownsRow_nil _ _ _ _, (fun _ h => absurd h List.not_mem_nil), HF1, HO1⟩
  case round =>
    clear HT0 HQ1 HF1 HO1
    obtain ⟨k, done, bk, hk, rfl, hdk, HT, HQ, HO, H8, HF, HOs⟩ := hrel
    by_cases hlt : k < N
    · have hkP : k < P.length := by rw [← HN.out]; exact hlt
      obtain ⟨p, hp⟩ : ∃ p, P[k]? = some p := ⟨_, List.getElem?_eq_getElem hkP⟩
      have hx : Tx wr (.slice a1 N c1) (P.map mkB) := Tx.of_own (by rw [List.length_map, ← HN.out, ← sv_tv]; exact HOs.out)
      obtain ⟨bk1, o1, rfl, hbk1, hc1⟩ := hx.get k (by simpa using hkP)
      have hcell : wr.cell? ⟨bk1, o1 + k, none⟩ = some (.string (mkB p)) := by
        rw [hc1, List.getD_eq_getElem?_getD, List.getElem?_map, hp]
        rfl
      obtain ⟨s1, s2⟩ := pieces_step hp HT.out
      have HS1 : Hid (errI bk ⟨1, mkB p⟩ ≠ 0 → R.2.2 = errI bk ⟨1, mkB p⟩) := s1
      have HS2 : Hid (errI bk ⟨1, mkB p⟩ = 0 → R = ((Wk.pieces (P.drop (k + 1)) (pl (more bk ⟨1, mkB p⟩))).1, (done ++ [idI bk ⟨1, mkB p⟩]) ++ (Wk.pieces (P.drop (k + 1)) (pl (more bk ⟨1, mkB p⟩))).2.1, (Wk.pieces (P.drop (k + 1)) (pl (more bk ⟨1, mkB p⟩))).2.2)) := s2
      have htell := tell_q base b m (c + k) fx mn mx bt left bk ⟨1, mkB p⟩ wr HQ.out (by omega) (HPs.out p (List.mem_of_getElem? hp))
      have hil := idI_length bk ⟨1, mkB p⟩
      obtain ⟨b0, b1, b2, b3, b4, b5, b6, b7, hL⟩ := eight _ hil
      rw [hL] at htell HS2
      have htell' : Calls Tryz.prog 35 #[.pointer (some ⟨b, 0, none⟩), .agg #[.int .i64 1, .string (mkB p)]] wr fun e w' => e = .returned (.tuple #[.agg #[.int .u8 (b0.toNat : Int), .int .u8 (b1.toNat : Int), .int .u8 (b2.toNat : Int), .int .u8 (b3.toNat : Int), .int .u8 (b4.toNat : Int), .int .u8 (b5.toNat : Int), .int .u8 (b6.toNat : Int), .int .u8 (b7.toNat : Int)], .int .i64 (errI bk ⟨1, mkB p⟩)]) ∧ Pq base b m fx mn mx bt (c + k + 1) w' left (more bk ⟨1, mkB p⟩) ∧ Pf base wr w' := htell
      generalize mkB p = pc at *
      generalize errI bk ⟨1, pc⟩ = ER at *
      generalize more bk ⟨1, pc⟩ = MB at *
      clear htell hil hL hx hc1 s1 s2 hkP hp HQ
      have HRs : Hid ((R.2.2 ≠ 0 → R.2.2 ≠ 0)) := fun h => h
      by_cases hE : ER = 0
      · subst hE
        have HT2 := (show Hid _ from HS2.out rfl)
        clear HS1 HS2
        go_wp2_with fail
        refine htell'.mono ?_
        rintro e w3 ⟨rfl, q3, f3⟩
        have HQ3 : Hid (Pq base b m fx mn mx bt (c + (k + 1)) w3 left MB) := q3
        have HF3 : Hid (Pf base w w3) := HF.out.trans f3
        have HOs3 : Hid (w3.ownsRow (w.heap.size + 1) 9 1 (.slice (some ⟨bk1, o1, none⟩) N c1) N (P.map Sv)) := own_pf HOs.out f3 (by decide) (by decide)
        have hO3 : w3.ownsRow w.heap.size 30 8 u6 k (rowR idC done) := own_pf HO.out f3 (by decide) (by decide)
        have hsz3 : w.heap.size ≤ w3.heap.size := HF3.out.size
        have hb3 : base ≤ w3.heap.size := Nat.le_trans hbase hsz3
        clear htell' q3 f3 HO HF HOs HT hcell hbk1
        go_wp2_with (at_builtin; refine wpList_append_own _ rfl (.tmp 32) (.tmp 34) 78 rfl w.heap.size 30 i0 (.agg #[.int .u8 0, .int .u8 0, .int .u8 0, .int .u8 0, .int .u8 0, .int .u8 0, .int .u8 0, .int .u8 0]) 8 8 Tryz.underlying78 hi hz0 hz1 hz2 rfl (by decide) _ _ _ rfl ((hO3.alloc _).alloc _) ⟨w3.heap.size + 1, 0, none⟩ 1 1 [.int .u8 (b0.toNat : Int), .int .u8 (b1.toNat : Int), .int .u8 (b2.toNat : Int), .int .u8 (b3.toNat : Int), .int .u8 (b4.toNat : Int), .int .u8 (b5.toNat : Int), .int .u8 (b6.toNat : Int), .int .u8 (b7.toNat : Int)] rfl rfl ?c1 ?c2 ?c3 ?c4 ?c5 ?_)
        case c1 => have := eight_new (w3.alloc (.cells #[.int .u8 (b0.toNat : Int), .int .u8 (b1.toNat : Int), .int .u8 (b2.toNat : Int), .int .u8 (b3.toNat : Int), .int .u8 (b4.toNat : Int), .int .u8 (b5.toNat : Int), .int .u8 (b6.toNat : Int), .int .u8 (b7.toNat : Int)] 30)) (.int .u8 (b0.toNat : Int)) (.int .u8 (b1.toNat : Int)) (.int .u8 (b2.toNat : Int)) (.int .u8 (b3.toNat : Int)) (.int .u8 (b4.toNat : Int)) (.int .u8 (b5.toNat : Int)) (.int .u8 (b6.toNat : Int)) (.int .u8 (b7.toNat : Int)) (T := 30); rwa [World.size_alloc] at this
        case c2 => simp [Value.oneCell']
        case c3 => unfold maxLen; omega
        case c4 => omega
        case c5 => simp; omega
        intro v6 w6 hown6 hgrow _
        have hO3' := (hO3.alloc (.cells #[.int .u8 (b0.toNat : Int), .int .u8 (b1.toNat : Int), .int .u8 (b2.toNat : Int), .int .u8 (b3.toNat : Int), .int .u8 (b4.toNat : Int), .int .u8 (b5.toNat : Int), .int .u8 (b6.toNat : Int), .int .u8 (b7.toNat : Int)] 30)).alloc (.cells #[.int .u8 (b0.toNat : Int), .int .u8 (b1.toNat : Int), .int .u8 (b2.toNat : Int), .int .u8 (b3.toNat : Int), .int .u8 (b4.toNat : Int), .int .u8 (b5.toNat : Int), .int .u8 (b6.toNat : Int), .int .u8 (b7.toNat : Int)] 30)
        have hk6 : Kt 30 w3 w6 := (((Kt.refl _ w3).alloc _).alloc _).trans (Kt.of_grown hgrow fun g hg => by
          obtain ⟨cur, q, _⟩ := own_block hO3' hg
          exact ⟨cur, _, q⟩)
        have hb6 : Below w.heap.size w3 w6 := (((Below.refl _ w3).alloc hsz3 _).alloc (by simp; omega) _).grown hgrow (by simp; omega) fun q hq => (hO3'.lt q hq).1
        have HQ6 : Hid (Pq base b m fx mn mx bt (c + (k + 1)) w6 left MB) := HQ3.out.kt hk6 (hb6.mono hbase) (by decide) (by decide)
        have HF6 : Hid (Pf base w w6) := HF3.out.then hb6 hbase
        have HOs6 : Hid (w6.ownsRow (w.heap.size + 1) 9 1 (.slice (some ⟨bk1, o1, none⟩) N c1) N (P.map Sv)) := own_kt HOs3.out hk6 (by decide)
        have HO6 : Hid (w6.ownsRow w.heap.size 30 8 v6 (k + 1) (rowR idC (done ++ [[b0, b1, b2, b3, b4, b5, b6, b7]]))) := by
          show World.ownsRow _ _ _ _ _ _ _
          rw [rowR_more]
          exact hown6
        have H86 : Hid (∀ t ∈ done ++ [[b0, b1, b2, b3, b4, b5, b6, b7]], t.length = 8) := fun t ht => by
          rcases List.mem_append.1 ht with q | q
          · exact H8.out t q
          · rw [List.mem_singleton.1 q]; rfl
        have HLd : Hid ((done ++ [[b0, b1, b2, b3, b4, b5, b6, b7]]).length = k + 1) := by show _ = _; rw [List.length_append, hdk]; rfl
        clear hown6 hgrow hO3 hO3' hk6 hb6 HQ3 HF3 HOs3 H8
        go_wp2_with fail
        go_roundw
        case rel => exact ⟨k + 1, _, MB, by omega, by go_num, HLd.out, HT2, HQ6, HO6, H86, HF6, HOs6⟩
        case measure => simp only [intOf]; omega
      · have HRE : Hid (R.2.2 = ER) := HS1.out hE
        have hne : (ER != 0) = true := by rw [bne_iff_ne]; exact hE
        have HE : Hid (ER ≠ 0) := hE
        clear HS1 HS2 hE
        go_wp2_with fail
        refine htell'.mono ?_
        rintro e w3 ⟨rfl, _, f3⟩
        have HF3 : Hid (Pf base w (w3.alloc (.cells #[.int .u8 (b0.toNat : Int), .int .u8 (b1.toNat : Int), .int .u8 (b2.toNat : Int), .int .u8 (b3.toNat : Int), .int .u8 (b4.toNat : Int), .int .u8 (b5.toNat : Int), .int .u8 (b6.toNat : Int), .int .u8 (b7.toNat : Int)] 30))) := (HF.out.trans f3).trans (Pf.of_below ((Below.refl _ w3).alloc (Nat.le_refl _) _) (Nat.le_trans hbase (HF.out.trans f3).size))
        clear htell' f3 HO HF HOs HT hcell hbk1
        go_wp2_with fail
        go_ret2
        exact ⟨_, by rw [HRE.out]; rfl, HF3.out, fun _ => rfl, fun e => absurd (HRE.out.symm.trans e) HE.out⟩
    · obtain rfl : k = N := by omega
      have HRz : Hid (R = (pl bk, done, 0)) := by
        have e : P.drop P.length = [] := List.drop_of_length_le (Nat.le_refl _)
        show _ = _
        rw [HT.out, HN.out, e]
        simp [Wk.pieces]
      have HQz : Hid (Pq base b m fx mn mx bt (c + 257) wr left bk) := HQ.out.mono (by omega)
      have hd257 : done.length ≤ 257 := by omega
      have HDk : Hid (done.length = k) := hdk
      clear HT HQ HOs
      go_wp2_with fail
      go_ret2
      refine ⟨_, by rw [HRz.out]; rfl, HF.out, fun e => absurd (by rw [HRz.out]) e, fun _ => ?_⟩
      rw [HRz.out]
      exact ⟨by rw [HDk.out]; exact HO.out, H8.out, hd257, bk, rfl, HQz.out⟩

end Go.Proofs.YtimdioacmojkeabGreatDoor

namespace Go.Proofs.YtimdioacmojkeabGreatDoor
open Go.RowKit

/-- what operation j waits for -/
def afters (md : Region.Mode) (ops : Array Oper) (j : Nat) : List Nat :=
  match ops[j]? with
  | none => []
  | some o => (o.after.toList.filter fun e => Region.binds md e).map (·.on)
def clos (md : Region.Mode) (ops : Array Oper) : Nat → List Nat → List Nat
  | 0, S => S
  | k + 1, S => clos md ops k (S ++ S.flatMap (afters md ops))
/-- the operations from m on wait for all ahead of m -/
def tailB (md : Region.Mode) (ops : Array Oper) (m k : Nat) : Bool :=
  (List.range m).all (fun i => (clos md ops k (afters md ops m)).contains i) && ((List.range ops.size).all (fun j => decide (j ≤ m) || (clos md ops k (afters md ops j)).contains m) &&
    (List.range ops.size).all (fun j => (afters md ops j).all fun i => decide (i < j)))
section
variable {P : Program} {md : Region.Mode} {ops ops' : Array Oper} {C : World → Prop}
theorem afters_listed {listed : Array Bool} (hc : closedB md ops listed = true) {j : Nat} (hj : listed.getD j false = true) : ∀ i ∈ afters md ops j, listed.getD i false = true := by
  intro i hi
  unfold afters at hi
  cases ho : ops[j]? with
  | none => rw [ho] at hi; simp at hi
  | some o =>
    rw [ho] at hi
    obtain ⟨e, he, rfl⟩ := List.mem_map.1 hi
    obtain ⟨he1, he2⟩ := List.mem_filter.1 he
    have hlt : j < ops.size := (Array.getElem?_eq_some_iff.1 ho).1
    have := List.all_eq_true.1 hc j (List.mem_range.2 hlt)
    rw [hj, ho, Bool.not_true, Bool.false_or] at this
    have h2 := (Array.all_eq_true'.1 this) e (Array.mem_toList_iff.1 he1)
    rw [he2, Bool.not_true, Bool.false_or] at h2
    exact h2
theorem clos_listed {listed : Array Bool} (hc : closedB md ops listed = true) : ∀ (k : Nat) (S : List Nat), (∀ i ∈ S, listed.getD i false = true) → ∀ i ∈ clos md ops k S, listed.getD i false = true
  | 0, _, h => h
  | k + 1, S, h => clos_listed hc k _ fun i hi => by
    rcases List.mem_append.1 hi with a | a
    · exact h i a
    · obtain ⟨j, hj, hi'⟩ := List.mem_flatMap.1 a
      exact afters_listed hc (h j hj) i hi'
theorem ready_afters {listed : Array Bool} {j : Nat} (h : j ∈ Region.ready md ops listed) : ∀ i ∈ afters md ops j, listed.getD i false = true := by
  obtain ⟨_, o, ho, hall⟩ := mem_ready.1 h
  intro i hi
  unfold afters at hi
  rw [ho] at hi
  obtain ⟨e, he, rfl⟩ := List.mem_map.1 hi
  obtain ⟨he1, he2⟩ := List.mem_filter.1 he
  exact hall e (Array.mem_toList_iff.1 he1) he2
theorem ready_some {listed : Array Bool} (hs : listed.size = ops.size) (hb : ∀ j, j < ops.size → ∀ i ∈ afters md ops j, i < j) : ∀ (n j : Nat), j ≤ n → j < ops.size → listed.getD j true = false → Region.ready md ops listed ≠ [] := by
  intro n
  induction n with
  | zero =>
    intro j hn hj hf h0
    obtain rfl : j = 0 := by omega
    have : 0 ∈ Region.ready md ops listed := by
      refine mem_ready.2 ⟨hf, ops[0], Array.getElem?_eq_getElem hj, fun e he hbd => ?_⟩
      have := hb 0 hj e.on (by unfold afters; rw [Array.getElem?_eq_getElem hj]; exact List.mem_map_of_mem (List.mem_filter.2 ⟨Array.mem_toList_iff.2 he, hbd⟩))
      omega
    rw [h0] at this
    simp at this
  | succ n ih =>
    intro j hn hj hf h0
    by_cases hall : ∀ i ∈ afters md ops j, listed.getD i false = true
    · have : j ∈ Region.ready md ops listed := by
        refine mem_ready.2 ⟨hf, ops[j], Array.getElem?_eq_getElem hj, fun e he hbd => ?_⟩
        exact hall e.on (by unfold afters; rw [Array.getElem?_eq_getElem hj]; exact List.mem_map_of_mem (List.mem_filter.2 ⟨Array.mem_toList_iff.2 he, hbd⟩))
      rw [h0] at this
      simp at this
    · simp only [Classical.not_forall] at hall
      obtain ⟨i, hi, hl⟩ := hall
      have hij := hb j hj i hi
      refine ih i (by omega) (by omega) ?_ h0
      have hlt : i < listed.size := by omega
      simp [Array.getD, hlt] at hl ⊢
      exact hl
/-- the first m listed, no other one -/
def upTo (m n : Nat) : Array Bool := (List.replicate m true ++ List.replicate (n - m) false).toArray
theorem upTo_of {listed : Array Bool} {m n : Nat} (hs : listed.size = n) (hm : m ≤ n) (h1 : ∀ i, i < m → listed.getD i false = true) (h2 : ∀ i, m ≤ i → i < n → listed.getD i true = false) : listed = upTo m n := by
  refine Array.ext (by simp [upTo, hs]; omega) fun i hi hi' => ?_
  by_cases c : i < m
  · have := h1 i c
    simp [Array.getD, hi] at this
    rw [this]
    simp [upTo, c]
  · have := h2 i (by omega) (by omega)
    simp [Array.getD, hi] at this
    rw [this]
    simp [upTo, List.getElem_append, c]
theorem count_set {listed : Array Bool} {i fuel : Nat} (hi : i < listed.size) (hf : listed.getD i true = false) (hc : listed.toList.count false = fuel + 1) : (listed.setIfInBounds i true).toList.count false = fuel := by
  have hv : listed[i] = false := by simpa [Array.getD, hi] using hf
  rw [Array.toList_setIfInBounds, List.count_set (by simpa using hi)]
  simp [hv, hc]
/-- the last ones are mute: what is asked at the end is asked here -/
theorem mute_end {m : Nat} {Qz : Act → Prop} (hmu : ∀ i, m ≤ i → i < ops'.size → ∃ o, ops'[i]? = some o ∧ o.guard = none ∧ o.dst = none) : ∀ (fuel : Nat) (listed : Array Bool) (a : Act), (∀ i, i < m → listed.getD i false = true) → wpAnyQ P md ops' C Qz fuel listed a → Qz a
  | 0, _, _, _, h => h.2
  | fuel + 1, listed, a, hl, h => by
    cases hr : Region.ready md ops' listed with
    | nil => exact h.1 hr
    | cons i r =>
      have hi : i ∈ Region.ready md ops' listed := by rw [hr]; exact List.mem_cons_self
      have hq := h.2 i hi
      obtain ⟨hf, o, ho, _⟩ := mem_ready.1 hi
      have hsz : i < ops'.size := (Array.getElem?_eq_some_iff.1 ho).1
      have him : m ≤ i := by
        rcases Nat.lt_or_ge i m with c | c
        · have := hl i c
          rcases Nat.lt_or_ge i listed.size with d | d
          · simp [Array.getD, d] at this hf; rw [this] at hf; cases hf
          · simp [Array.getD, Nat.not_lt.2 d] at this
        · exact c
      obtain ⟨o', ho', g, d⟩ := hmu i him hsz
      unfold qOp at hq
      rw [ho'] at hq
      simp only [Region.wanted, g, if_true] at hq
      obtain ⟨v, _, hn⟩ := hq
      rw [d] at hn
      refine mute_end hmu fuel (listed.setIfInBounds i true) a (fun j hj => ?_) hn
      rw [getD_set_other false (by omega)]
      exact hl j hj
theorem any_of_tail {m k : Nat} {Q : Exit → Act → World → Prop} (hT : tailB md ops m k = true) (hm : m < ops.size) (hs' : ops'.size = ops.size) (hsame : ∀ i, i < m → ops'[i]? = ops[i]?)
    (hmu : ∀ i, m ≤ i → i < ops'.size → ∃ o, ops'[i]? = some o ∧ o.guard = none ∧ o.dst = none) (hrd : ∀ listed, Region.ready md ops' listed = Region.ready md ops listed) (hg : ∀ (i : Nat) (o : Oper), ops[i]? = some o → o.guard = none) :
    ∀ (fuel : Nat) (listed : Array Bool) (a : Act) (w : World), C w → listed.size = ops.size → closedB md ops listed = true → (∀ i, m ≤ i → i < ops.size → listed.getD i true = false) → listed.toList.count false = fuel →
      wpAnyQ P md ops' C (fun a' => ∀ w', C w' → wpAny P md ops Q (ops.size - m) (upTo m ops.size) a' w') fuel listed a → wpAny P md ops Q fuel listed a w := by
  simp only [tailB, Bool.and_eq_true, List.all_eq_true, List.mem_range, Bool.or_eq_true, decide_eq_true_eq, List.contains_iff_mem] at hT
  obtain ⟨hT1, hT2, hT3⟩ := hT
  intro fuel
  induction fuel with
  | zero =>
    intro listed a w hC hs hc hz hn h
    exfalso
    have h1 := hz m (Nat.le_refl _) hm
    have hlt : m < listed.size := by omega
    have h2 : listed[m] = false := by simpa [Array.getD, hlt] using h1
    exact (List.count_eq_zero.1 hn) (h2 ▸ (by simp))
  | succ fuel ih =>
    intro listed a w hC hs hc hz hn h
    by_cases hall : ∀ i, i < m → listed.getD i false = true
    · have he := upTo_of hs (Nat.le_of_lt hm) hall hz
      have hf : fuel + 1 = ops.size - m := by
        rw [← hn, he, upTo]
        simp [List.count_replicate]
      have hq := mute_end hmu (fuel + 1) listed a hall h
      rw [he, hf]
      exact hq w hC
    · simp only [Classical.not_forall] at hall
      obtain ⟨j, hj, hl⟩ := hall
      have hlj : listed.getD j true = false := by
        have hlt : j < listed.size := by omega
        simp [Array.getD, hlt] at hl ⊢
        exact hl
      refine ⟨fun h0 => absurd h0 (ready_some hs hT3 j j (Nat.le_refl _) (by omega) hlj), fun i hi => ?_⟩
      have him : i < m := by
        rcases Nat.lt_or_ge i m with c | c
        · exact c
        · exfalso
          obtain ⟨hfi, o, ho, _⟩ := mem_ready.1 hi
          have hsz : i < ops.size := (Array.getElem?_eq_some_iff.1 ho).1
          rcases Nat.lt_or_ge m i with d | d
          · rcases hT2 i hsz with e | e
            · omega
            · have := clos_listed hc k _ (ready_afters hi) m e
              have h1 := hz m (Nat.le_refl _) hm
              have hlt : m < listed.size := by omega
              simp [Array.getD, hlt] at this h1
              rw [h1] at this
              cases this
          · obtain rfl : i = m := by omega
            exact hl (clos_listed hc k _ (ready_afters hi) j (hT1 j hj))
      have hfi : listed.getD i true = false := (mem_ready.1 hi).1
      have hq := h.2 i (by rw [hrd]; exact hi)
      have hq2 : qOp P ops C i (wpAnyQ P md ops' C (fun a' => ∀ w', C w' → wpAny P md ops Q (ops.size - m) (upTo m ops.size) a' w') fuel (listed.setIfInBounds i true)) a := by
        unfold qOp at hq ⊢
        rw [hsame i him] at hq
        cases ho : ops[i]? with
        | none => rw [ho] at hq; exact hq
        | some o =>
          rw [ho] at hq
          simp only [Region.wanted, hg i o ho, if_true] at hq ⊢
          exact hq
      refine wpOp_of_qOp hC (fun a' w' hC' hK => ih _ _ _ hC' (by rw [Array.size_setIfInBounds]; exact hs) (closed_set hc hi) (fun p hp hp2 => ?_) (count_set (by omega) hfi hn) hK) hq2
      rw [getD_set_other true (by omega)]
      exact hz p hp hp2
end
/-- all from m on, put to rest -/
def muted (m : Nat) (l : List Oper) : List Oper := l.take m ++ (l.drop m).map mute
theorem wpQuiet_muted {P : Program} {ops : Array Oper} {C : World → Prop} {Q : Act → Prop} : ∀ (l : List Oper) (a : Act), l.all (fun o => o.guard.isNone) = true → Q a → wpQuiet P ops C Q (l.map mute) a
  | [], _, _, h => h
  | o :: l, a, hg, h => by
    rw [List.all_cons, Bool.and_eq_true] at hg
    have h0 : o.guard = none := by simpa using hg.1
    rw [List.map_cons]
    unfold wpQuiet
    rw [if_pos (by simp [Region.wanted, mute, h0])]
    refine ⟨undef, fun w _ => ?_, wpQuiet_muted l a hg.2 h⟩
    unfold Oper.quietAt
    simp [mute, execOp, Act.eval, Oper.quietUpon]
theorem wpQuiet_append {P : Program} {ops : Array Oper} {C : World → Prop} {Q : Act → Prop} (l2 : List Oper) : ∀ (l1 : List Oper) (a : Act), wpQuiet P ops C (wpQuiet P ops C Q l2) l1 a → wpQuiet P ops C Q (l1 ++ l2) a
  | [], _, h => h
  | o :: l1, a, h => by
    rw [List.cons_append]
    unfold wpQuiet at h ⊢
    split
    · rename_i hw
      rw [if_pos hw] at h
      exact Oper.quiet_mono (fun a' => wpQuiet_append l2 l1 a') h
    · rename_i hw
      rw [if_neg hw] at h
      exact wpQuiet_append l2 l1 _ h
theorem wpQuiet_mono {P : Program} {ops : Array Oper} {C : World → Prop} {Q Q' : Act → Prop} (hq : ∀ a, Q a → Q' a) : ∀ (l : List Oper) (a : Act), wpQuiet P ops C Q l a → wpQuiet P ops C Q' l a
  | [], a, h => hq a h
  | o :: l, a, h => by
    unfold wpQuiet at h ⊢
    split
    · rename_i hw
      rw [if_pos hw] at h
      exact Oper.quiet_mono (fun a' => wpQuiet_mono hq l a') h
    · rename_i hw
      rw [if_neg hw] at h
      exact wpQuiet_mono hq l _ h
theorem wp_region_tail {P : Program} {id : Nat} {Q : Exit → Act → World → Prop} {a : Act} {w : World} {l : List Oper} {C : World → Prop} (m k : Nat) (hm : P.follows .mixedOrders = true) (hml : m < l.length)
    (hB : Region.lexB .any (muted m l).toArray = true) (hT : tailB .any l.toArray m k = true) (hg : l.all (fun o => o.guard.isNone) = true) (h0 : closedB .any l.toArray (Array.replicate l.length false) = true) (hw : C w.drew)
    (h : wpQuiet P (muted m l).toArray C (fun a' => ∀ w', C w' → wpAny P .any l.toArray Q (l.length - m) (upTo m l.length) a' w') (l.take m) a) :
    (Code.region id l.toArray true).wp P Q a w := by
  have h := wpQuiet_append ((l.drop m).map mute) _ _ (wpQuiet_mono (Q' := wpQuiet P (muted m l).toArray C (fun a' => ∀ w', C w' → wpAny P .any l.toArray Q (l.length - m) (upTo m l.length) a' w') ((l.drop m).map mute)) (fun a' ha => wpQuiet_muted (l.drop m) a' (List.all_eq_true.2 fun o ho => List.all_eq_true.1 hg o (List.mem_of_mem_drop ho)) ha) _ _ h)
  have hgs : ∀ (i : Nat) (o : Oper), l.toArray[i]? = some o → o.guard = none := fun i o ho => by
    have := List.all_eq_true.1 hg o (List.mem_of_getElem? (by simpa using ho))
    simpa using this
  have hlen : (muted m l).length = l.length := by simp [muted]; omega
  have hget : ∀ j, (muted m l)[j]? = if j < m then l[j]? else (l[j]?).map mute := fun j => by
    unfold muted
    by_cases c : j < m
    · rw [List.getElem?_append_left (by simp; omega), if_pos c, List.getElem?_take, if_pos c]
    · rw [List.getElem?_append_right (by simp; omega), if_neg c, List.getElem?_map, List.getElem?_drop]
      congr 2
      simp
      omega
  have hrd : ∀ listed, Region.ready .any (muted m l).toArray listed = Region.ready .any l.toArray listed := fun listed => by
    unfold Region.ready
    simp only [List.size_toArray, hlen]
    congr 1
    funext j
    simp only [List.getElem?_toArray, hget]
    by_cases c : j < m
    · rw [if_pos c]
    · rw [if_neg c]
      cases l[j]? <;> simp [mute]
  simp only [Region.lexB, Bool.and_eq_true] at hB
  refine wp_region_any hm ?_
  refine any_of_tail (m := m) (k := k) (C := C) (ops' := (muted m l).toArray) hT (by simpa using hml) (by simp [hlen]) (fun i hi => by simp only [List.getElem?_toArray, hget]; rw [if_pos hi]) (fun i hi hi2 => ?_) hrd hgs _ _ _ _ hw (by simp) (by simpa using h0) (fun i _ hi => ?_) (by simp) ?_
  · have hl : i < l.length := by simpa [hlen] using hi2
    refine ⟨mute l[i], ?_, ?_, rfl⟩
    · simp only [List.getElem?_toArray, hget]
      rw [if_neg (by omega), List.getElem?_eq_getElem hl]
      rfl
    · exact hgs i l[i] (by simp [hl])
  · have hl : i < l.length := by simpa using hi
    simp [Array.getD, hl]
  · have := wpAnyQ_lex (P := P) (C := C) (md := .any) hB.1 (muted m l) 0 (Array.replicate (muted m l).toArray.size false) a (by simp) (by simpa using hB.2) h
    simpa [hlen] using this
end Go.Proofs.YtimdioacmojkeabGreatDoor

namespace Go.Proofs.YtimdioacmojkeabGreatDoor
open Go.RowKit

/-- which operations ahead of operation k it looks at -/
def deps (ops : Array Oper) (k : Nat) : List Nat :=
  match ops[k]? with
  | none => []
  | some o => (List.range k).filter fun j => match (ops[j]?).bind (·.dst) with | some d => (o.looksAt ops).contains d | none => false
abbrev Law := Value → World → Prop
def upd (env : Nat → Law) (k : Nat) (V : Law) : Nat → Law := fun j => if j = k then V else env j
/-- one operation: what it leaves is as V says, the world has grown -/
def StepR (P : Program) (G : World → World → Prop) (V : Law) (ops : Array Oper) (o : Oper) (a : Act) (w : World) : Prop :=
  if Region.wanted o (yielded ops a.tmps) then ∀ K : Act → World → Prop, (∀ u w', V u w' → G w w' → K (a.put o.dst u) w') → o.wp P a w K (fun _ _ _ => False) else V undef w
/-- the walk in the order of the text -/
def walkR (P : Program) (G : World → World → Prop) (W0 : World) (ops : Array Oper) (End : (Nat → Law) → ((Nat → Value) → Act) → Prop) : List Oper → Nat → (Nat → Law) → ((Nat → Value) → Act) → Prop
  | [], _, env, A => End env A
  | o :: l, k, env, A =>
    (∃ c, (∀ v w, G W0 w → (∀ j, (deps ops k).contains j = true → env j (v j) w) → StepR P G (fun u _ => u = c) ops o (A v) w) ∧ walkR P G W0 ops End l (k + 1) (upd env k fun u _ => u = c) (fun v => (A v).put o.dst c)) ∨
    (∃ V : Law, (∀ u w w', V u w → G w w' → V u w') ∧ (∀ v w, G W0 w → (∀ j, (deps ops k).contains j = true → env j (v j) w) → StepR P G V ops o (A v) w) ∧ walkR P G W0 ops End l (k + 1) (upd env k V) (fun v => (A v).put o.dst (v k)))
/-- the operations that came up, laid over a0 in the order of the text -/
def lay (ops : Array Oper) (a0 : Act) (v : Nat → Value) (f : Nat → Bool) : Nat → Act
  | 0 => a0
  | k + 1 => if f k then (lay ops a0 v f k).put ((ops[k]?).bind (·.dst)) (v k) else lay ops a0 v f k
/-- no slot is written twice; what an operation looks at is there ahead of it, or comes behind it -/
def relB (md : Region.Mode) (ops : Array Oper) (m : Nat) : Bool :=
  ((List.range m).all fun i => (List.range m).all fun j => decide (i = j) || (match (ops[i]?).bind (·.dst) with | some d => decide ((ops[j]?).bind (·.dst) ≠ some d) | none => true)) &&
  ((List.range m).all fun i => match ops[i]? with
    | none => true
    | some o => (List.range m).all fun j => match (ops[j]?).bind (·.dst) with
      | none => true
      | some d => !(o.looksAt ops).contains d || decide (i = j) || (decide (j < i) && (afters md ops i).contains j) || (decide (i < j) && (afters md ops j).contains i)) &&
  (List.range ops.size).all (fun j => (afters md ops j).all fun i => decide (i < j))
section
variable {P : Program} {md : Region.Mode} {ops : Array Oper} {G : World → World → Prop} {W0 : World} {End : (Nat → Law) → ((Nat → Value) → Act) → Prop}
theorem walkR_spec : ∀ (l : List Oper) (k : Nat) (env : Nat → Law) (A : (Nat → Value) → Act), (∀ j, j < l.length → l[j]? = ops[k + j]?) → walkR P G W0 ops End l k env A →
    ∃ (V : Nat → Law) (x : Nat → (Nat → Value) → Value) (B : Nat → (Nat → Value) → Act), (∀ j, j < k → V j = env j) ∧ (∀ j, k ≤ j → j < k + l.length → ∀ u w w', V j u w → G w w' → V j u w') ∧ B k = A ∧
      (∀ i o, k ≤ i → i < k + l.length → ops[i]? = some o → (∀ v, B (i + 1) v = (B i v).put o.dst (x i v)) ∧ (∀ v w, V i (v i) w → x i v = v i) ∧
        (∀ v w, G W0 w → (∀ j, (deps ops i).contains j = true → V j (v j) w) → StepR P G (V i) ops o (B i v) w)) ∧ End V (B (k + l.length))
  | [], k, env, A, _, h => ⟨env, fun _ _ => undef, fun _ => A, fun _ _ => rfl, fun j h1 h2 => by simp at h2; omega, rfl, fun i o h1 h2 => by simp at h2; omega, h⟩
  | o :: l, k, env, A, hl, h => by
    have h0 : ops[k]? = some o := by simpa using (hl 0 (by simp)).symm
    have hl' : ∀ j, j < l.length → l[j]? = ops[k + 1 + j]? := fun j hj => by
      have := hl (j + 1) (by simpa using hj)
      rw [show k + 1 + j = k + (j + 1) from by omega, ← this]
      rfl
    have hdep : ∀ i j, (deps ops i).contains j = true → j < i := fun i j hj => by
      unfold deps at hj
      cases ho : ops[i]? with
      | none => rw [ho] at hj; simp at hj
      | some o' =>
        rw [ho] at hj
        have := List.mem_filter.1 (List.contains_iff_mem.1 hj)
        exact List.mem_range.1 this.1
    have go : ∀ (U : Law) (y : (Nat → Value) → Value), (∀ u w w', U u w → G w w' → U u w') → (∀ v w, U (v k) w → y v = v k) →
        (∀ v w, G W0 w → (∀ j, (deps ops k).contains j = true → env j (v j) w) → StepR P G U ops o (A v) w) → walkR P G W0 ops End l (k + 1) (upd env k U) (fun v => (A v).put o.dst (y v)) →
        ∃ (V : Nat → Law) (x : Nat → (Nat → Value) → Value) (B : Nat → (Nat → Value) → Act), (∀ j, j < k → V j = env j) ∧ (∀ j, k ≤ j → j < k + (o :: l).length → ∀ u w w', V j u w → G w w' → V j u w') ∧ B k = A ∧
          (∀ i o, k ≤ i → i < k + (o :: l).length → ops[i]? = some o → (∀ v, B (i + 1) v = (B i v).put o.dst (x i v)) ∧ (∀ v w, V i (v i) w → x i v = v i) ∧
            (∀ v w, G W0 w → (∀ j, (deps ops i).contains j = true → V j (v j) w) → StepR P G (V i) ops o (B i v) w)) ∧ End V (B (k + (o :: l).length)) := by
      intro U y hU hy hstep hw
      obtain ⟨V, x, B, h1, h2, h3, h4, h5⟩ := walkR_spec l (k + 1) _ _ hl' hw
      have hVk : V k = U := by rw [h1 k (by omega)]; simp [upd]
      have hVj : ∀ j, j < k → V j = env j := fun j hj => by rw [h1 j (by omega)]; simp [upd, show j ≠ k from by omega]
      refine ⟨V, fun i => if i = k then y else x i, fun i => if i = k then A else B i, hVj, fun j a b => ?_, by simp, fun i o' a b ho' => ?_, ?_⟩
      · by_cases e : j = k
        · subst e; rw [hVk]; exact hU
        · exact h2 j (by omega) (by rw [List.length_cons] at b; omega)
      · by_cases e : i = k
        · subst e
          obtain rfl : o = o' := by rw [h0] at ho'; exact Option.some.inj ho'
          refine ⟨fun v => ?_, fun v w hv => ?_, fun v w hw' hd => ?_⟩
          · dsimp only
            rw [if_neg (by omega), if_pos rfl, if_pos rfl, h3]
          · dsimp only
            rw [hVk] at hv; rw [if_pos rfl]; exact hy v w hv
          · dsimp only
            rw [hVk, if_pos rfl]
            refine hstep v w hw' fun j hj => ?_
            have := hd j hj
            rwa [hVj j (hdep i j hj)] at this
        · obtain ⟨q1, q2, q3⟩ := h4 i o' (by omega) (by rw [List.length_cons] at b; omega) ho'
          refine ⟨fun v => ?_, fun v w hv => ?_, fun v w hw' hd => ?_⟩
          · dsimp only
            rw [if_neg (by omega), if_neg e, if_neg e]; exact q1 v
          · dsimp only
            rw [if_neg e]; exact q2 v w hv
          · dsimp only
            rw [if_neg e]; exact q3 v w hw' hd
      · dsimp only
        rw [if_neg (by rw [List.length_cons]; omega), List.length_cons, show k + (l.length + 1) = k + 1 + l.length from by omega]
        exact h5
    rcases h with ⟨c, hs, hw⟩ | ⟨U, hU, hs, hw⟩
    · exact go (fun u _ => u = c) (fun _ => c) (fun _ _ _ e _ => e) (fun _ _ e => e.symm) hs hw
    · exact go U (fun v => v k) hU (fun _ _ _ => rfl) hs hw
theorem put_size (a : Act) (d : Option Tmp) (u : Value) : (a.put d u).tmps.size = a.tmps.size := by cases d <;> simp [Act.put]
theorem lay_size (a0 : Act) (v : Nat → Value) (f : Nat → Bool) : ∀ k, (lay ops a0 v f k).tmps.size = a0.tmps.size
  | 0 => rfl
  | k + 1 => by
    rw [lay]
    split
    · rw [put_size, lay_size a0 v f k]
    · exact lay_size a0 v f k
theorem lay_agree (a0 : Act) {v y : Nat → Value} {f g : Nat → Bool} (t : Nat) : ∀ k, (∀ j, j < k → (ops[j]?).bind (·.dst) = some t → f j = g j ∧ (f j = true → v j = y j)) →
    (lay ops a0 v f k).tmps[t]? = (lay ops a0 y g k).tmps[t]?
  | 0, _ => rfl
  | k + 1, h => by
    have ih := lay_agree a0 t k fun j hj => h j (by omega)
    by_cases e : (ops[k]?).bind (·.dst) = some t
    · obtain ⟨h1, h2⟩ := h k (by omega) e
      rw [lay, lay, ← h1, e]
      cases hf : f k with
      | false => simpa using ih
      | true =>
        have sz : (lay ops a0 v f k).tmps.size = (lay ops a0 y g k).tmps.size := by rw [lay_size, lay_size]
        rw [h2 hf]
        simp only [if_true, Act.put, Array.getElem?_setIfInBounds, sz]
    · have skip : ∀ (b : Act) (u : Value), (b.put ((ops[k]?).bind (·.dst)) u).tmps[t]? = b.tmps[t]? := fun b u => by
        cases hd : (ops[k]?).bind (·.dst) with
        | none => rfl
        | some d =>
          have : d ≠ t := fun q => e (by rw [hd, q])
          simp [Act.put, Array.getElem?_setIfInBounds_ne this]
      rw [lay, lay]
      split <;> split <;> (try rw [skip]) <;> (try rw [skip]) <;> exact ih
theorem lay_same (a0 : Act) {v y : Nat → Value} {f g : Nat → Bool} : ∀ k, (∀ j, j < k → f j = g j ∧ (f j = true → v j = y j)) → lay ops a0 v f k = lay ops a0 y g k
  | 0, _ => rfl
  | k + 1, h => by
    obtain ⟨h1, h2⟩ := h k (by omega)
    rw [lay, lay, lay_same a0 k fun j hj => h j (by omega), ← h1]
    cases hf : f k with
    | false => rfl
    | true => rw [h2 hf]
theorem lay_set (a0 : Act) {v : Nat → Value} {f : Nat → Bool} {i : Nat} {u : Value} (hf : f i = false) {m : Nat} (hd : ∀ j, j < m → j ≠ i → ∀ d, (ops[i]?).bind (·.dst) = some d → (ops[j]?).bind (·.dst) ≠ some d) : ∀ k, k ≤ m → i < k →
    lay ops a0 (fun j => if j = i then u else v j) (fun j => if j = i then true else f j) k = (lay ops a0 v f k).put ((ops[i]?).bind (·.dst)) u
  | 0, _, h => by omega
  | k + 1, hk, h => by
    by_cases e : k = i
    · subst e
      rw [lay, lay, if_pos (by simp), if_pos rfl, hf, if_neg (by simp)]
      congr 1
      exact lay_same a0 _ fun j hj => by
        have : j ≠ k := by omega
        simp [this]
    · have ih := lay_set a0 (v := v) (u := u) hf hd k (by omega) (by omega)
      rw [lay, lay, ih]
      simp only [if_neg e]
      cases hfk : f k with
      | false => simp
      | true =>
        simp only [if_true]
        exact Act.put_comm _ u (v k) fun d hd' => hd k (by omega) e d hd'
theorem execOp_agree {o : Oper} (hs : ∀ cs b, o.op ≠ .select cs b) {a b : Act} (h : ∀ t, t ∈ o.looksAt ops → a.tmps[t]? = b.tmps[t]?) : execOp a.eval o = execOp b.eval o :=
  execOp_congr o hs fun x hx => by
    cases x with
    | tmp t =>
      have := h t (List.mem_append_left _ (List.mem_filterMap.2 ⟨.tmp t, by simpa using hx, rfl⟩))
      simp [Act.eval, this]
    | _ => rfl
theorem wanted_agree {o : Oper} {a b : Act} (h : ∀ t, t ∈ o.looksAt ops → a.tmps[t]? = b.tmps[t]?) : Region.wanted o (yielded ops a.tmps) = Region.wanted o (yielded ops b.tmps) := by
  unfold Region.wanted
  cases hg : o.guard with
  | none => rfl
  | some gw =>
    obtain ⟨g, want⟩ := gw
    have hy : yielded ops a.tmps g = yielded ops b.tmps g := by
      unfold yielded
      cases ht : (ops[g]?).bind (·.dst) with
      | none => rfl
      | some t =>
        have := h t (by simp [Oper.looksAt, hg, ht])
        simp [this]
    simp only [hy]
theorem put_same {a b : Act} (hs : a.tmps.size = b.tmps.size) {d : Option Tmp} {u u' : Value} (h : b.put d u = b.put d u') : a.put d u = a.put d u' := by
  cases d with
  | none => rfl
  | some d =>
    simp only [Act.put, Act.mk.injEq, and_true] at h ⊢
    by_cases hd : d < b.tmps.size
    · have := congrArg (·[d]?) h
      simp [hd] at this
      rw [this]
    · have h1 : a.tmps.size ≤ d := by rw [hs]; exact Nat.le_of_not_lt hd
      rw [Array.setIfInBounds_eq_of_size_le h1, Array.setIfInBounds_eq_of_size_le h1]
theorem step_at {o : Oper} (hs : ∀ cs b, o.op ≠ .select cs b) {a b : Act} {w : World} {V : Law} (hsz : a.tmps.size = b.tmps.size) (h : ∀ t, t ∈ o.looksAt ops → a.tmps[t]? = b.tmps[t]?) (hb : StepR P G V ops o b w) : StepR P G V ops o a w := by
  unfold StepR at *
  rw [wanted_agree h]
  split
  · rename_i hw
    rw [if_pos hw] at hb
    intro K hK
    have h1 := hb (fun a' w' => ∃ u, a' = b.put o.dst u ∧ V u w' ∧ G w w') fun u w' hv hg => ⟨u, rfl, hv, hg⟩
    unfold Oper.wp at *
    rw [execOp_agree hs h]
    have fin : ∀ u w', (∃ u', b.put o.dst u = b.put o.dst u' ∧ V u' w' ∧ G w w') → K (a.put o.dst u) w' := fun u w' ⟨u', e, hv, hg⟩ => by
      rw [put_same hsz e]; exact hK u' w' hv hg
    generalize (execOp b.eval o).run P w = r at *
    cases r with
    | ok n w' =>
      cases n <;> simp only [Oper.upon] at h1 ⊢
      case value u => exact fin u w' h1
      case skip => exact fin undef w' h1
      case defer d =>
        obtain ⟨u', e, _⟩ := h1
        exfalso
        have e2 := congrArg (fun (q : Act) => q.defers.length) e
        cases hd : o.dst <;> simp [hd, Act.put] at e2
      case enter f args =>
        refine Calls.mono h1 fun e w'' he => ?_
        cases e with
        | returned u => exact fin u w'' he
        | panicked c => exact he.elim
        | outgrown => exact absurd he (by simp [LetsOut])
      case row row args => exact Rows.mono h1 fun u w'' he => fin u w'' he
    | halt x w' => cases x <;> simp only [Oper.upon] at h1
  · rename_i hw
    rwa [if_neg hw] at hb
/-- what the Bool says -/
theorem relB_spec {m : Nat} (h : relB md ops m = true) :
    (∀ i, i < m → ∀ j, j < m → i ≠ j → ∀ d, (ops[i]?).bind (·.dst) = some d → (ops[j]?).bind (·.dst) ≠ some d) ∧
    (∀ i, i < m → ∀ o, ops[i]? = some o → ∀ j, j < m → ∀ d, (ops[j]?).bind (·.dst) = some d → d ∈ o.looksAt ops → i = j ∨ (j < i ∧ j ∈ afters md ops i) ∨ (i < j ∧ i ∈ afters md ops j)) ∧
    (∀ j, j < ops.size → ∀ i ∈ afters md ops j, i < j) := by
  simp only [relB, Bool.and_eq_true, List.all_eq_true, List.mem_range, Bool.or_eq_true, decide_eq_true_eq] at h
  obtain ⟨⟨h1, h2⟩, h3⟩ := h
  refine ⟨fun i hi j hj hne d hd => ?_, fun i hi o ho j hj d hd hl => ?_, h3⟩
  · have := h1 i hi j hj
    rw [hd] at this
    rcases this with e | e
    · exact absurd e hne
    · simpa using e
  · have := h2 i hi
    rw [ho] at this
    simp only [List.all_eq_true, List.mem_range] at this
    have := this j hj
    rw [hd] at this
    simp only [Bool.or_eq_true, Bool.and_eq_true, decide_eq_true_eq, Bool.not_eq_true', List.contains_iff_mem] at this
    rcases this with ((e | e) | e) | e
    · rw [List.contains_iff_mem.2 hl] at e; cases e
    · exact .inl e
    · exact .inr (.inl e)
    · exact .inr (.inr e)
theorem any_of_rel {m : Nat} {a0 : Act} {Q : Exit → Act → World → Prop} {V : Nat → Law} {x : Nat → (Nat → Value) → Value} {B : Nat → (Nat → Value) → Act} (hGr : ∀ w, G w w) (hG : ∀ w w' w'', G w w' → G w' w'' → G w w'')
    (hR : relB md ops m = true) (hm : m ≤ ops.size) (hsel : Region.noSelect ops = true)
    (hT : ∀ listed : Array Bool, listed.size = ops.size → closedB md ops listed = true → (∃ j, j < m ∧ listed.getD j false = false) → ∀ i ∈ Region.ready md ops listed, i < m)
    (hmono : ∀ j, j < m → ∀ u w w', V j u w → G w w' → V j u w') (hB0 : ∀ v, B 0 v = a0)
    (hB : ∀ i o, i < m → ops[i]? = some o → (∀ v, B (i + 1) v = (B i v).put o.dst (x i v)) ∧ (∀ v w, V i (v i) w → x i v = v i) ∧ (∀ v w, G W0 w → (∀ j, (deps ops i).contains j = true → V j (v j) w) → StepR P G (V i) ops o (B i v) w))
    (hE : ∀ v w, G W0 w → (∀ j, j < m → V j (v j) w) → wpAny P md ops Q (ops.size - m) (upTo m ops.size) (B m v) w) :
    ∀ (fuel : Nat) (listed : Array Bool) (v : Nat → Value) (w : World), G W0 w → listed.size = ops.size → closedB md ops listed = true → (∀ i, m ≤ i → i < ops.size → listed.getD i true = false) → listed.toList.count false = fuel →
      (∀ j, j < m → listed.getD j false = true → V j (v j) w) → wpAny P md ops Q fuel listed (lay ops a0 v (fun j => listed.getD j false) m) w := by
  obtain ⟨hR1, hR2, hR3⟩ := relB_spec hR
  have hget : ∀ i, i < m → ∃ o, ops[i]? = some o := fun i hi => ⟨_, Array.getElem?_eq_getElem (by omega)⟩
  have hBlay : ∀ v i, i ≤ m → B i v = lay ops a0 (fun j => x j v) (fun j => decide (j < i)) m := fun v i hi => by
    have h1 : ∀ k, k ≤ i → B k v = lay ops a0 (fun j => x j v) (fun j => decide (j < i)) k := fun k => by
      induction k with
      | zero => intro _; exact hB0 v
      | succ k ih =>
        intro hk
        obtain ⟨o, ho⟩ := hget k (by omega)
        rw [(hB k o (by omega) ho).1 v, ih (by omega), lay, if_pos (by simp; omega), ho]
        rfl
    have h2 : ∀ k, lay ops a0 (fun j => x j v) (fun j => decide (j < i)) (i + k) = lay ops a0 (fun j => x j v) (fun j => decide (j < i)) i := fun k => by
      induction k with
      | zero => rfl
      | succ k ih => rw [← Nat.add_assoc, lay, if_neg (by simp), ih]
    rw [h1 i (Nat.le_refl _), ← h2 (m - i), show i + (m - i) = m from by omega]
  intro fuel
  induction fuel with
  | zero =>
    intro listed v w hw hs hc hz hn hV
    have hall : ∀ i, i < ops.size → listed.getD i false = true := fun i hi => by
      have hlt : i < listed.size := by omega
      have : listed[i] ≠ false := fun e => (List.count_eq_zero.1 hn) (e ▸ (by simp))
      simpa [Array.getD, hlt] using this
    have hmn : m = ops.size := by
      rcases Nat.lt_or_ge m ops.size with c | c
      · have h1 := hz m (Nat.le_refl _) c
        have h2 := hall m c
        have hlt : m < listed.size := by omega
        simp [Array.getD, hlt] at h1 h2
        rw [h1] at h2; cases h2
      · omega
    have he : listed = upTo m ops.size := upTo_of hs hm (fun i hi => hall i (by omega)) hz
    have ha : lay ops a0 v (fun j => listed.getD j false) m = B m v := by
      rw [hBlay v m (Nat.le_refl _)]
      refine lay_same a0 m fun j hj => ⟨by rw [hall j (by omega)]; simp [hj], fun _ => ?_⟩
      obtain ⟨o, ho⟩ := hget j hj
      exact ((hB j o hj ho).2.1 v w (hV j hj (hall j (by omega)))).symm
    have := hE v w hw fun j hj => hV j hj (hall j (by omega))
    rw [show ops.size - m = 0 from by omega, ← he, ← ha] at this
    exact this
  | succ fuel ih =>
    intro listed v w hw hs hc hz hn hV
    by_cases hall : ∀ i, i < m → listed.getD i false = true
    · have he := upTo_of hs hm hall hz
      have hf : fuel + 1 = ops.size - m := by
        rw [← hn, he, upTo]
        simp [List.count_replicate]
      have ha : lay ops a0 v (fun j => listed.getD j false) m = B m v := by
        rw [hBlay v m (Nat.le_refl _)]
        refine lay_same a0 m fun j hj => ⟨by rw [hall j hj]; simp [hj], fun _ => ?_⟩
        obtain ⟨o, ho⟩ := hget j hj
        exact ((hB j o hj ho).2.1 v w (hV j hj (hall j hj))).symm
      have := hE v w hw fun j hj => hV j hj (hall j hj)
      rw [ha, he, hf]
      exact this
    · simp only [Classical.not_forall] at hall
      obtain ⟨j0, hj0, hl0⟩ := hall
      have hl0' : listed.getD j0 false = false := by simpa using hl0
      have hlj : listed.getD j0 true = false := by
        have hlt : j0 < listed.size := by omega
        simp [Array.getD, hlt] at hl0' ⊢
        exact hl0'
      refine ⟨fun h0 => absurd h0 (ready_some hs hR3 j0 j0 (Nat.le_refl _) (by omega) hlj), fun i hi => ?_⟩
      have him : i < m := hT listed hs hc ⟨j0, hj0, hl0'⟩ i hi
      obtain ⟨hfi, o, ho, _⟩ := mem_ready.1 hi
      obtain ⟨_, _, hst⟩ := hB i o him ho
      have hfi' : listed.getD i false = false := by
        have hlt : i < listed.size := by omega
        simp [Array.getD, hlt] at hfi ⊢
        exact hfi
      have haft := ready_afters hi
      -- what it looks at
      have hdeps : ∀ j, (deps ops i).contains j = true → j < m ∧ listed.getD j false = true := fun j hj => by
        unfold deps at hj
        rw [ho] at hj
        have := List.mem_filter.1 (List.contains_iff_mem.1 hj)
        have hji := List.mem_range.1 this.1
        have h2 := this.2
        cases hd : (ops[j]?).bind (·.dst) with
        | none => rw [hd] at h2; simp at h2
        | some d =>
          rw [hd] at h2
          simp only [List.contains_iff_mem] at h2
          rcases hR2 i him o ho j (by omega) d hd h2 with e | e | e
          · omega
          · exact ⟨by omega, haft j e.2⟩
          · omega
      have hagree : ∀ t, t ∈ o.looksAt ops → (lay ops a0 v (fun j => listed.getD j false) m).tmps[t]? = (B i v).tmps[t]? := fun t ht => by
        rw [hBlay v i (by omega)]
        refine lay_agree a0 t m fun j hj hd => ?_
        rcases hR2 i him o ho j hj t hd ht with e | e | e
        · subst e
          exact ⟨by rw [hfi']; simp, fun q => by rw [hfi'] at q; cases q⟩
        · have hq := haft j e.2
          refine ⟨by rw [hq]; simp [e.1], fun _ => ?_⟩
          obtain ⟨oj, hoj⟩ := hget j hj
          exact ((hB j oj hj hoj).2.1 v w (hV j hj hq)).symm
        · have hnj : listed.getD j false = false := by
            cases hq : listed.getD j false with
            | false => rfl
            | true =>
              have := afters_listed hc hq i e.2
              rw [hfi'] at this; cases this
          exact ⟨by rw [hnj]; simp; omega, fun q => by rw [hnj] at q; cases q⟩
      have hstep := step_at (fun cs b => Region.noSelect_spec hsel i o cs b ho) (by rw [lay_size, hBlay v i (by omega), lay_size]) hagree (hst v w hw fun j hj => hV j (hdeps j hj).1 (hdeps j hj).2)
      have hnext : ∀ u w', V i u w' → G w w' → wpAny P md ops Q fuel (listed.setIfInBounds i true) ((lay ops a0 v (fun j => listed.getD j false) m).put o.dst u) w' := fun u w' hu hg => by
        have hset := lay_set a0 (v := v) (f := fun j => listed.getD j false) (u := u) hfi' (fun j hj hne d hd => hR1 i him j hj (Ne.symm hne) d hd) m (Nat.le_refl _) him
        rw [ho] at hset
        rw [show o.dst = (some o).bind (·.dst) from rfl, ← hset]
        have hfun : (fun j => if j = i then true else listed.getD j false) = fun j => (listed.setIfInBounds i true).getD j false := funext fun j => by
          by_cases e : j = i
          · subst e
            have hlt : j < listed.size := by omega
            simp [Array.getD, hlt]
          · rw [if_neg e, getD_set_other false e]
        rw [hfun]
        refine ih (listed.setIfInBounds i true) _ w' (hG _ _ _ hw hg) (by rw [Array.size_setIfInBounds]; exact hs) (closed_set hc hi) (fun p hp hp2 => ?_) (count_set (by omega) hfi hn) fun j hj hl => ?_
        · rw [getD_set_other true (by omega)]; exact hz p hp hp2
        · by_cases e : j = i
          · subst e; rw [if_pos rfl]; exact hu
          · rw [if_neg e]
            rw [getD_set_other false e] at hl
            exact hmono j hj _ _ _ (hV j hj hl) hg
      unfold wpOp
      rw [ho]
      dsimp only
      unfold StepR at hstep
      split
      · rename_i hwt
        rw [if_pos hwt] at hstep
        have h1 := hstep _ hnext
        refine .inl ?_
        unfold Oper.wp at *
        generalize (execOp (lay ops a0 v (fun j => listed.getD j false) m).eval o).run P w = r at *
        cases r with
        | ok n w' =>
          cases n <;> simp only [Oper.upon] at h1 ⊢ <;> first | exact h1 | (refine Calls.mono h1 fun e w'' he => ?_; cases e <;> first | exact he | exact he.elim | exact absurd he (by simp [LetsOut]))
        | halt y w' => cases y <;> simp only [Oper.upon] at h1
      · rename_i hwt
        rw [if_neg hwt] at hstep
        exact hnext undef w hstep (hGr w)
theorem step_run {V : Law} {o : Oper} {a : Act} {w : World} (hwt : Region.wanted o (yielded ops a.tmps) = true) (u : Value) (w' : World) (h : (execOp a.eval o).run P w = .ok (.value u) w') (hv : V u w') (hg : G w w') : StepR P G V ops o a w := by
  unfold StepR
  rw [if_pos hwt]
  intro K hK
  unfold Oper.wp
  rw [h]
  exact hK u w' hv hg
theorem step_call {V : Law} {o : Oper} {a : Act} {w : World} (hwt : Region.wanted o (yielded ops a.tmps) = true) (f : FuncId) (args : Array Value) (h : (execOp a.eval o).run P w = .ok (.enter f args) w)
    (hc : Calls P f args w fun e w'' => ∃ u, e = .returned u ∧ V u w'' ∧ G w w'') : StepR P G V ops o a w := by
  unfold StepR
  rw [if_pos hwt]
  intro K hK
  unfold Oper.wp
  rw [h]
  refine Calls.mono hc fun e w'' ⟨u, he, hv, hg⟩ => ?_
  subst he
  exact hK u w'' hv hg
theorem step_skip {V : Law} {o : Oper} {a : Act} {w : World} (hwt : Region.wanted o (yielded ops a.tmps) = false) (hv : V undef w) : StepR P G V ops o a w := by
  unfold StepR
  rw [if_neg (by rw [hwt]; simp)]
  exact hv
theorem closed_none (md : Region.Mode) (ops : Array Oper) (n : Nat) : closedB md ops (Array.replicate n false) = true := by
  unfold closedB
  rw [List.all_eq_true]
  intro j _
  have : (Array.replicate n false).getD j false = false := by
    by_cases h : j < n
    · simp [Array.getD, h]
    · simp [Array.getD, h]
  rw [this]
  rfl
theorem wp_region_rel_tail {id : Nat} {Q : Exit → Act → World → Prop} {a : Act} {w : World} {l : List Oper} (m k : Nat) (hGr : ∀ w, G w w) (hG : ∀ w w' w'', G w w' → G w' w'' → G w w'') (hm : P.follows .mixedOrders = true)
    (hml : m ≤ l.length) (hsel : Region.noSelect l.toArray = true) (hR : relB .any l.toArray m = true) (hT : m = l.length ∨ tailB .any l.toArray m k = true) (hw : G W0 w.drew)
    (h : walkR P G W0 l.toArray (fun env A => ∀ v w, G W0 w → (∀ j, j < m → env j (v j) w) → wpAny P .any l.toArray Q (l.length - m) (upTo m l.length) (A v) w) (l.take m) 0 (fun _ _ _ => True) (fun _ => a)) :
    (Code.region id l.toArray true).wp P Q a w := by
  have hlen : (l.take m).length = m := by rw [List.length_take]; omega
  obtain ⟨V, x, B, _, h2, h3, h4, h5⟩ := walkR_spec (P := P) (ops := l.toArray) (l.take m) 0 _ _ (fun j hj => by
    rw [hlen] at hj
    rw [List.getElem?_take, if_pos hj, Nat.zero_add]
    simp) h
  rw [hlen, Nat.zero_add] at h5
  simp only [hlen, Nat.zero_add, Nat.zero_le, true_implies] at h2 h4
  refine wp_region_any hm ?_
  have hlay : ∀ k, lay l.toArray a (fun _ => undef) (fun j => (Array.replicate l.toArray.size false).getD j false) k = a := fun k => by
    induction k with
    | zero => rfl
    | succ k ih =>
      rw [lay, if_neg, ih]
      by_cases h : k < l.length
      · simp [h]
      · simp [h]
  have hTT : ∀ listed : Array Bool, listed.size = l.toArray.size → closedB .any l.toArray listed = true → (∃ j, j < m ∧ listed.getD j false = false) → ∀ i ∈ Region.ready .any l.toArray listed, i < m := by
    intro listed hs hc ⟨j, hj, hlj⟩ i hi
    obtain ⟨hfi, o, ho, _⟩ := mem_ready.1 hi
    have hsz : i < l.toArray.size := (Array.getElem?_eq_some_iff.1 ho).1
    rcases hT with e | hT
    · rw [e]; simpa using hsz
    · simp only [tailB, Bool.and_eq_true, List.all_eq_true, List.mem_range, Bool.or_eq_true, decide_eq_true_eq, List.contains_iff_mem] at hT
      obtain ⟨hT1, hT2, _⟩ := hT
      rcases Nat.lt_or_ge i m with c | c
      · exact c
      · exfalso
        have hall : ∀ q, listed.getD q false = true → ∀ y ∈ afters .any l.toArray q, listed.getD y false = true := fun q hq => afters_listed hc hq
        have hmj : m ∈ clos .any l.toArray k (afters .any l.toArray i) → listed.getD m false = true := clos_listed hc k _ (ready_afters hi) m
        have fin : listed.getD m false = true → False := fun hq => by
          have := clos_listed hc k _ (hall m hq) j (hT1 j hj)
          rw [hlj] at this; cases this
        rcases Nat.lt_or_ge m i with d | d
        · rcases hT2 i hsz with e | e
          · omega
          · exact fin (hmj e)
        · obtain rfl : i = m := by omega
          have := clos_listed hc k _ (ready_afters hi) j (hT1 j hj)
          rw [hlj] at this; cases this
  have := any_of_rel (P := P) (md := .any) (ops := l.toArray) (G := G) (W0 := W0) (m := m) (a0 := a) (Q := Q) (V := V) (x := x) (B := B) hGr hG hR (by simpa using hml) hsel hTT h2 (fun v => by rw [h3]) h4 (by simpa using h5)
    l.toArray.size (Array.replicate l.toArray.size false) (fun _ => undef) w.drew hw (by simp) (closed_none _ _ _) (fun i _ hi => by have hi' : i < l.length := by simpa using hi
                                                                                                                                     simp [Array.getD, hi']) (by simp) (fun j _ hl => by
      exfalso
      by_cases hj : j < l.length
      · simp [hj] at hl
      · simp [hj] at hl)
  rw [hlay] at this
  exact this
/-- the world has grown: all that was there is as it was -/
def Gw (w w' : World) : Prop := Below w.heap.size w w'
theorem Gw.refl (w : World) : Gw w w := Below.refl _ w
theorem Gw.trans (w w' w'' : World) (h : Gw w w') (k : Gw w' w'') : Gw w w'' := Below.trans h (Below.mono k h.size)
/-- the same, all operations -/
theorem wp_region_rel {id : Nat} {Q : Exit → Act → World → Prop} {a : Act} {w : World} {l : List Oper} (hGr : ∀ w, G w w) (hG : ∀ w w' w'', G w w' → G w' w'' → G w w'') (hm : P.follows .mixedOrders = true)
    (hsel : Region.noSelect l.toArray = true) (hR : relB .any l.toArray l.length = true) (hw : G W0 w.drew)
    (h : walkR P G W0 l.toArray (fun env A => ∀ v w, G W0 w → (∀ j, j < l.length → env j (v j) w) → Q .normal (A v) w) l 0 (fun _ _ _ => True) (fun _ => a)) :
    (Code.region id l.toArray true).wp P Q a w := by
  refine wp_region_rel_tail (G := G) (W0 := W0) l.length 0 hGr hG hm (Nat.le_refl _) hsel hR (.inl rfl) hw ?_
  rw [List.take_length, Nat.sub_self]
  have key : ∀ (l' : List Oper) (k : Nat) (env : Nat → Law) (A : (Nat → Value) → Act), walkR P G W0 l.toArray (fun env A => ∀ v w, G W0 w → (∀ j, j < l.length → env j (v j) w) → Q .normal (A v) w) l' k env A →
      walkR P G W0 l.toArray (fun env A => ∀ v w, G W0 w → (∀ j, j < l.length → env j (v j) w) → wpAny P .any l.toArray Q 0 (upTo l.length l.length) (A v) w) l' k env A := by
    intro l'
    induction l' with
    | nil =>
      intro k env A h v w hw hv
      refine ⟨?_, h v w hw hv⟩
      cases hr : Region.ready .any l.toArray (upTo l.length l.length) with
      | nil => rfl
      | cons i r =>
        exfalso
        have hi : i ∈ Region.ready .any l.toArray (upTo l.length l.length) := by rw [hr]; exact List.mem_cons_self
        have := (mem_ready.1 hi).1
        by_cases hlt : i < l.length
        · simp [upTo, Array.getD, hlt] at this
        · simp [upTo, Array.getD, hlt] at this
    | cons o l' ih =>
      intro k env A h
      rcases h with ⟨c, h1, h2⟩ | ⟨V, h1, h2, h3⟩
      · exact .inl ⟨c, h1, ih _ _ _ h2⟩
      · exact .inr ⟨V, h1, h2, ih _ _ _ h3⟩
  exact key _ _ _ _ h
end
end Go.Proofs.YtimdioacmojkeabGreatDoor

namespace Go.Proofs.YtimdioacmojkeabGreatDoor
open Go.RowKit
set_option maxRecDepth 4000

/-- seven cells written -/
def set7 (W : World) (G : Nat) (x0 x1 x2 x3 x4 x5 x6 : Value) : World :=
  ((((((W.setCell ⟨G, 0, none⟩ x0).setCell ⟨G, 1, none⟩ x1).setCell ⟨G, 2, none⟩ x2).setCell ⟨G, 3, none⟩ x3).setCell ⟨G, 4, none⟩ x4).setCell ⟨G, 5, none⟩ x5).setCell ⟨G, 6, none⟩ x6

theorem below_set7 {B' : Nat} {w W : World} {G : Nat} (h : Below B' w W) (hg : B' ≤ G) (x0 x1 x2 x3 x4 x5 x6 : Value) : Below B' w (set7 W G x0 x1 x2 x3 x4 x5 x6) :=
  ((((((h.setCell hg _).setCell hg _).setCell hg _).setCell hg _).setCell hg _).setCell hg _).setCell hg _

theorem set_at {W : World} {M : Nat} {cur : Array Value} {T : TypeId} {fr : Nat × Nat} (h : W.heap[M]? = some (.cells cur T fr)) (j : Nat) (a : Value) :
    (W.setCell ⟨M, j, none⟩ a).heap[M]? = some (.cells (cur.setIfInBounds j a) T fr) := by
  simp [World.setCell, Array.getElem?_modify, h]

theorem seven_set {W : World} {G : Nat} {y0 y1 y2 y3 y4 y5 y6 : Value} {T : TypeId} {fr : Nat × Nat} (h : W.heap[G]? = some (.cells #[y0, y1, y2, y3, y4, y5, y6] T fr)) (x0 x1 x2 x3 x4 x5 x6 : Value) :
    (set7 W G x0 x1 x2 x3 x4 x5 x6).heap[G]? = some (.cells #[x0, x1, x2, x3, x4, x5, x6] T fr) ∧ Kt T W (set7 W G x0 x1 x2 x3 x4 x5 x6) := by
  have h0 : (W.setCell ⟨G, 0, none⟩ x0).heap[G]? = some (.cells #[x0, y1, y2, y3, y4, y5, y6] T fr) := by simpa using set_at h 0 x0
  have h1 : ((W.setCell ⟨G, 0, none⟩ x0).setCell ⟨G, 1, none⟩ x1).heap[G]? = some (.cells #[x0, x1, y2, y3, y4, y5, y6] T fr) := by simpa using set_at h0 1 x1
  have h2 : (((W.setCell ⟨G, 0, none⟩ x0).setCell ⟨G, 1, none⟩ x1).setCell ⟨G, 2, none⟩ x2).heap[G]? = some (.cells #[x0, x1, x2, y3, y4, y5, y6] T fr) := by simpa using set_at h1 2 x2
  have h3 : ((((W.setCell ⟨G, 0, none⟩ x0).setCell ⟨G, 1, none⟩ x1).setCell ⟨G, 2, none⟩ x2).setCell ⟨G, 3, none⟩ x3).heap[G]? = some (.cells #[x0, x1, x2, x3, y4, y5, y6] T fr) := by simpa using set_at h2 3 x3
  have h4 : (((((W.setCell ⟨G, 0, none⟩ x0).setCell ⟨G, 1, none⟩ x1).setCell ⟨G, 2, none⟩ x2).setCell ⟨G, 3, none⟩ x3).setCell ⟨G, 4, none⟩ x4).heap[G]? = some (.cells #[x0, x1, x2, x3, x4, y5, y6] T fr) := by simpa using set_at h3 4 x4
  have h5 : ((((((W.setCell ⟨G, 0, none⟩ x0).setCell ⟨G, 1, none⟩ x1).setCell ⟨G, 2, none⟩ x2).setCell ⟨G, 3, none⟩ x3).setCell ⟨G, 4, none⟩ x4).setCell ⟨G, 5, none⟩ x5).heap[G]? = some (.cells #[x0, x1, x2, x3, x4, x5, y6] T fr) := by simpa using set_at h4 5 x5
  have h6 : (((((((W.setCell ⟨G, 0, none⟩ x0).setCell ⟨G, 1, none⟩ x1).setCell ⟨G, 2, none⟩ x2).setCell ⟨G, 3, none⟩ x3).setCell ⟨G, 4, none⟩ x4).setCell ⟨G, 5, none⟩ x5).setCell ⟨G, 6, none⟩ x6).heap[G]? = some (.cells #[x0, x1, x2, x3, x4, x5, x6] T fr) := by simpa using set_at h5 6 x6
  exact ⟨h6, ((((((Kt.set h 0 x0).trans (Kt.set h0 1 x1)).trans (Kt.set h1 2 x2)).trans (Kt.set h2 3 x3)).trans (Kt.set h3 4 x4)).trans (Kt.set h4 5 x5)).trans (Kt.set h5 6 x6)⟩

theorem free7 {w : World} {b : Nat} {T : TypeId} {cur : Array Value} (h : w.heap[b]? = some (.cells cur T (0, 0))) : w.frozen? ⟨b, 0, none⟩ = false ∧ w.frozen? ⟨b, 1, none⟩ = false ∧ w.frozen? ⟨b, 2, none⟩ = false ∧ w.frozen? ⟨b, 3, none⟩ = false ∧ w.frozen? ⟨b, 4, none⟩ = false ∧ w.frozen? ⟨b, 5, none⟩ = false ∧ w.frozen? ⟨b, 6, none⟩ = false :=
  ⟨free_at h 0, free_at h 1, free_at h 2, free_at h 3, free_at h 4, free_at h 5, free_at h 6⟩

theorem Kt.set1 {T : TypeId} {W : World} {G j : Nat} {cur : Array Value} {fr : Nat × Nat} (h : W.heap[G]? = some (.cells cur T fr)) (a : Value) : Kt T W (W.setCell ⟨G, j, none⟩ a) := Kt.set h j a

/-- how an item comes in: its block, the result's, the node's -/
structure Nb (w W : World) (x : Im) (B G : Nat) (nv : Array Value) : Prop where
  eq : B = w.heap.size
  ge : B + 2 ≤ G
  it : W.heap[B]? = some (.cells #[.string x.path, .int .i64 x.kind, .int .i64 x.mode, .int .i64 x.time, .string x.bytes] 36 (0, 0))
  res : W.heap[B + 1]? = some (.cells #[.string ⟨#[]⟩, .int .i64 0, .int .i64 0, .int .i64 0, .int .i64 0, .slice none 0 0, .string ⟨#[]⟩] 80 (0, 0))
  nd : W.heap[G]? = some (.cells nv 80 (0, 0))

theorem Nb.set {w W : World} {x : Im} {B G : Nat} {nv nv' : Array Value} (h : Nb w W x B G nv) (j : Nat) (a : Value) (e : nv.setIfInBounds j a = nv') : Nb w (W.setCell ⟨G, j, none⟩ a) x B G nv' := by
  have := h.ge
  refine ⟨h.eq, h.ge, ?_, ?_, ?_⟩
  · rw [Below.heap_setCell _ _ _ _ (by show B ≠ G; omega)]; exact h.it
  · rw [Below.heap_setCell _ _ _ _ (by show B + 1 ≠ G; omega)]; exact h.res
  · rw [← e]; exact set_at h.nd j a

theorem Nb.pf {base : Nat} {w W W' : World} {x : Im} {B G : Nat} {nv : Array Value} (h : Nb w W x B G nv) (hf : Pf base W W') : Nb w W' x B G nv :=
  ⟨h.eq, h.ge, hf.cells h.it (by decide) (by decide), hf.cells h.res (by decide) (by decide), hf.cells h.nd (by decide) (by decide)⟩

theorem Nb.past {w W W' : World} {x : Im} {B G : Nat} {nv : Array Value} (h : Nb w W x B G nv) (hb : Below W.heap.size W W') : Nb w W' x B G nv :=
  ⟨h.eq, h.ge, (hb.block _ (Array.getElem?_eq_some_iff.1 h.it).1).trans h.it, (hb.block _ (Array.getElem?_eq_some_iff.1 h.res).1).trans h.res, (hb.block _ (Array.getElem?_eq_some_iff.1 h.nd).1).trans h.nd⟩

/-- the node's block as it is made -/
def Nz (B : Nat) (u : Value) (W : World) : Prop := ∃ g, u = .pointer (some ⟨g, 0, none⟩) ∧ W.heap[g]? = some (.cells #[.string ⟨#[]⟩, .int .i64 0, .int .i64 0, .int .i64 0, .int .i64 0, .slice none 0 0, .string ⟨#[]⟩] 80 (0, 0)) ∧ B ≤ g

theorem Nz.mono {B : Nat} (u : Value) (w w' : World) (h : Nz B u w) (hg : Gw w w') : Nz B u w' := by
  obtain ⟨g, e, h1, h2⟩ := h
  exact ⟨g, e, (Below.block hg g (Array.getElem?_eq_some_iff.1 h1).1).trans h1, h2⟩

theorem two_new (w : World) (o1 o2 : Obj) : ((w.alloc o1).alloc o2).heap[w.heap.size]? = some o1 ∧ ((w.alloc o1).alloc o2).heap[w.heap.size + 1]? = some o2 ∧ ((w.alloc o1).alloc o2).heap.size = w.heap.size + 2 ∧ Below w.heap.size w ((w.alloc o1).alloc o2) := by
  have s1 : (w.alloc o1).heap.size = w.heap.size + 1 := World.size_alloc _ _
  have s2 : ((w.alloc o1).alloc o2).heap.size = w.heap.size + 2 := by rw [World.size_alloc, s1]
  have h1 := heap_alloc_new w o1
  have h2 := heap_alloc_new (w.alloc o1) o2
  rw [s1] at h2
  have b2 := (Below.refl _ (w.alloc o1)).alloc (Nat.le_refl _) o2
  exact ⟨(b2.block _ (by rw [s1]; omega)).trans h1, h2, s2, ((Below.refl _ w).alloc (Nat.le_refl _) o1).alloc (by rw [s1]; omega) o2⟩

set_option maxHeartbeats 2000000 in
set_option maxRecDepth 10000 in
/-- a link -/
theorem node_link (base b m c : Nat) (fx mn mx bt : Int) (left : List Im) (bs : List Blb) (x : Im) (nm : ByteArray) (w : World) (h : Pq base b m fx mn mx bt c w left bs) (hk : x.kind = 3)
    (hln : ∀ W, Calls Tryz.prog 50 #[.string x.path] W fun e w' => e = .returned (.string nm) ∧ w' = W) :
    Calls Tryz.prog 33 #[.pointer (some ⟨b, 0, none⟩), imV x] w fun e w' => e = .returned (.tuple #[.agg #[.string nm, .int .i64 3, .int .i64 x.mode, .int .i64 x.time, .int .i64 0, .slice none 0 0, .string x.bytes], .int .i64 0]) ∧ Pf base w w' ∧ Pq base b m fx mn mx bt c w' left bs := by
  have hbase := h.base
  obtain ⟨path, kind, mode, time, bytes⟩ := x
  dsimp only at hk hln ⊢
  subst hk
  obtain ⟨W2, hW2⟩ : ∃ W2, W2 = (w.alloc (.cells #[.string path, .int .i64 3, .int .i64 mode, .int .i64 time, .string bytes] 36)).alloc (.cells #[.string ⟨#[]⟩, .int .i64 0, .int .i64 0, .int .i64 0, .int .i64 0, .slice none 0 0, .string ⟨#[]⟩] 80) := ⟨_, rfl⟩
  obtain ⟨t1, t2, t3, t4⟩ := two_new w (.cells #[.string path, .int .i64 3, .int .i64 mode, .int .i64 time, .string bytes] 36) (.cells #[.string ⟨#[]⟩, .int .i64 0, .int .i64 0, .int .i64 0, .int .i64 0, .slice none 0 0, .string ⟨#[]⟩] 80)
  rw [← hW2] at t1 t2 t3 t4
  have HQ : Hid (Pq base b m fx mn mx bt c w left bs) := h
  have HT : Hid (W2.heap[w.heap.size]? = some (.cells #[.string path, .int .i64 3, .int .i64 mode, .int .i64 time, .string bytes] 36 (0, 0)) ∧ W2.heap[w.heap.size + 1]? = some (.cells #[.string ⟨#[]⟩, .int .i64 0, .int .i64 0, .int .i64 0, .int .i64 0, .slice none 0 0, .string ⟨#[]⟩] 80 (0, 0)) ∧ W2.heap.size = w.heap.size + 2 ∧ Below w.heap.size w W2) := ⟨t1, t2, t3, t4⟩
  clear h t1 t2 t3 t4
  have H0 : Hid (∀ W, Gw W2 W → W.cell? ⟨w.heap.size, 0, none⟩ = some (.string path) ∧ W.cell? ⟨w.heap.size, 1, none⟩ = some (.int .i64 3) ∧ W.cell? ⟨w.heap.size, 2, none⟩ = some (.int .i64 mode) ∧ W.cell? ⟨w.heap.size, 3, none⟩ = some (.int .i64 time) ∧ W.cell? ⟨w.heap.size, 4, none⟩ = some (.string bytes)) := fun W hW => by
    have := five_at ((Below.block hW _ (Array.getElem?_eq_some_iff.1 HT.out.1).1).trans HT.out.1)
    exact ⟨this.1, this.2.1, this.2.2.1, this.2.2.2.1, this.2.2.2.2.1⟩
  go_enter Tryz.func33, Tryz.ntmps33
  go_upto_region 1 with fail
  rw [← hW2]
  clear hW2
  refine wp_region_rel_tail (G := Gw) (W0 := W2) 11 1 Gw.refl Gw.trans (by kernel_rfl) (by decide) (by kernel_rfl) (by kernel_rfl) (.inr (by kernel_rfl)) (Below.refl _ W2).drew ?_
  refine .inl ⟨.pointer (some ⟨w.heap.size, 0, none⟩), fun v W hW hd => step_run rfl _ W (by clear hd; go_simp) rfl (Gw.refl _), ?_⟩
  simp only [Act.put, List.setIfInBounds_toArray, List.set_cons_zero, List.set_cons_succ]
  refine .inl ⟨.string path, fun v W hW hd => step_run rfl _ W (by clear hd; obtain ⟨c0, c1, c2, c3, c4⟩ := H0.out W hW; go_simp) rfl (Gw.refl _), ?_⟩
  simp only [Act.put, List.setIfInBounds_toArray, List.set_cons_zero, List.set_cons_succ]
  refine .inl ⟨.string nm, fun v W hW hd => step_call rfl 50 #[.string path] (by clear hd; go_simp) ((hln W).mono fun e w' h => ⟨_, h.1, rfl, by rw [h.2]; exact Gw.refl _⟩), ?_⟩
  simp only [Act.put, List.setIfInBounds_toArray, List.set_cons_zero, List.set_cons_succ]
  refine .inl ⟨.pointer (some ⟨w.heap.size, 1, none⟩), fun v W hW hd => step_run rfl _ W (by clear hd; go_simp) rfl (Gw.refl _), ?_⟩
  simp only [Act.put, List.setIfInBounds_toArray, List.set_cons_zero, List.set_cons_succ]
  refine .inl ⟨.int .i64 3, fun v W hW hd => step_run rfl _ W (by clear hd; obtain ⟨c0, c1, c2, c3, c4⟩ := H0.out W hW; go_simp) rfl (Gw.refl _), ?_⟩
  simp only [Act.put, List.setIfInBounds_toArray, List.set_cons_zero, List.set_cons_succ]
  refine .inl ⟨.pointer (some ⟨w.heap.size, 2, none⟩), fun v W hW hd => step_run rfl _ W (by clear hd; go_simp) rfl (Gw.refl _), ?_⟩
  simp only [Act.put, List.setIfInBounds_toArray, List.set_cons_zero, List.set_cons_succ]
  refine .inl ⟨.int .i64 mode, fun v W hW hd => step_run rfl _ W (by clear hd; obtain ⟨c0, c1, c2, c3, c4⟩ := H0.out W hW; go_simp) rfl (Gw.refl _), ?_⟩
  simp only [Act.put, List.setIfInBounds_toArray, List.set_cons_zero, List.set_cons_succ]
  refine .inl ⟨.pointer (some ⟨w.heap.size, 3, none⟩), fun v W hW hd => step_run rfl _ W (by clear hd; go_simp) rfl (Gw.refl _), ?_⟩
  simp only [Act.put, List.setIfInBounds_toArray, List.set_cons_zero, List.set_cons_succ]
  refine .inl ⟨.int .i64 time, fun v W hW hd => step_run rfl _ W (by clear hd; obtain ⟨c0, c1, c2, c3, c4⟩ := H0.out W hW; go_simp) rfl (Gw.refl _), ?_⟩
  simp only [Act.put, List.setIfInBounds_toArray, List.set_cons_zero, List.set_cons_succ]
  refine .inl ⟨.agg #[.string nm, .int .i64 3, .int .i64 mode, .int .i64 time, .int .i64 0, .slice none 0 0, .string ⟨#[]⟩], fun v W hW hd => step_run rfl _ W (by clear hd; go_simp) rfl (Gw.refl _), ?_⟩
  simp only [Act.put, List.setIfInBounds_toArray, List.set_cons_zero, List.set_cons_succ]
  refine .inr ⟨Nz (w.heap.size + 2), Nz.mono, fun v W hW hd => step_run rfl _ (W.alloc (.cells #[.string ⟨#[]⟩, .int .i64 0, .int .i64 0, .int .i64 0, .int .i64 0, .slice none 0 0, .string ⟨#[]⟩] 80)) (by clear hd; go_simp) ⟨_, rfl, heap_alloc_new W _, Nat.le_trans (Nat.le_of_eq HT.out.2.2.1.symm) (Below.size hW)⟩ ((Below.refl _ W).alloc (Nat.le_refl _) _), ?_⟩
  simp only [Act.put, List.setIfInBounds_toArray, List.set_cons_zero, List.set_cons_succ]
  intro v W hW hV
  have h10 : Nz (w.heap.size + 2) (v 10) W := hV 10 (by decide)
  clear hV
  obtain ⟨g, e10, hg, hge⟩ := h10
  simp only [Nat.reduceAdd]
  rw [e10]
  obtain ⟨z0, z1, z2, z3, z4, z5, z6, zlt⟩ := sev_at hg
  obtain ⟨f0, f1, f2, f3, f4, f5, f6⟩ := free7 hg
  have hs7 := seven_set hg (.string nm) (.int .i64 3) (.int .i64 mode) (.int .i64 time) (.int .i64 0) (.slice none 0 0) (.string ⟨#[]⟩)
  have hB4 : Below (w.heap.size + 2) W2 (set7 W g (.string nm) (.int .i64 3) (.int .i64 mode) (.int .i64 time) (.int .i64 0) (.slice none 0 0) (.string ⟨#[]⟩)) := below_set7 (Below.mono hW (Nat.le_of_eq HT.out.2.2.1.symm)) hge _ _ _ _ _ _ _
  obtain ⟨W4, hW4⟩ : ∃ W4, W4 = set7 W g (.string nm) (.int .i64 3) (.int .i64 mode) (.int .i64 time) (.int .i64 0) (.slice none 0 0) (.string ⟨#[]⟩) := ⟨_, rfl⟩
  rw [← hW4] at hs7 hB4
  have HNb : Hid (Nb w W4 ⟨path, 3, mode, time, bytes⟩ w.heap.size g #[.string nm, .int .i64 3, .int .i64 mode, .int .i64 time, .int .i64 0, .slice none 0 0, .string ⟨#[]⟩]) :=
    ⟨rfl, hge, (hB4.block _ (by omega)).trans HT.out.1, (hB4.block _ (by omega)).trans HT.out.2.1, hs7.1⟩
  have HB4 : Hid (Below w.heap.size w W4) := HT.out.2.2.2.trans (hB4.mono (by omega))
  clear hs7 hB4 e10 H0 hW HT hge zlt hln hg
  unfold set7 at hW4
  refine wpAny_ready (rs := [11]) (by kernel_rfl) (by simp) ?_
  refine AllReady.cons rfl (fun K hK => ?_) AllReady.nil
  rw [if_pos (by rfl)]
  go_simp
  rw [← hW4]
  clear hW4 z0 z1 z2 z3 z4 z5 z6 f0 f1 f2 f3 f4 f5 f6
  refine hK _ _ ?_
  clear hK K
  refine wpAny_done (by kernel_rfl) ?_ _
  obtain ⟨i0, i1, i2, i3, i4, ilt⟩ := five_at HNb.out.it
  obtain ⟨n0, n1, n2, n3, n4, n5, n6, nlt⟩ := sev_at HNb.out.nd
  obtain ⟨f0, f1, f2, f3, f4, f5, f6⟩ := free7 HNb.out.nd
  obtain ⟨r0, r1, r2, r3, r4, r5, r6, rlt⟩ := sev_at HNb.out.res
  obtain ⟨g0, g1, g2, g3, g4, g5, g6⟩ := free7 HNb.out.res
  have HgB : Hid (w.heap.size + 2 ≤ g) := HNb.out.ge
  have hgne : g ≠ w.heap.size + 1 := by have := HgB.out; omega
  have hgne2 : w.heap.size + 1 ≠ g := by have := HgB.out; omega
  have HB9 : Hid (Below w.heap.size w (set7 (W4.setCell ⟨g, 6, none⟩ (.string bytes)) (w.heap.size + 1) (.string nm) (.int .i64 3) (.int .i64 mode) (.int .i64 time) (.int .i64 0) (.slice none 0 0) (.string bytes))) :=
    below_set7 (HB4.out.setCell (by show w.heap.size ≤ g; have := HgB.out; omega) _) (by omega) _ _ _ _ _ _ _
  go_wp2_with fail
  refine bodyPost_ret (v := .tuple #[.agg #[.string nm, .int .i64 3, .int .i64 mode, .int .i64 time, .int .i64 0, .slice none 0 0, .string bytes], .int .i64 0]) ?_ rfl ⟨rfl, Pf.of_below HB9.out hbase, HQ.out.below HB9.out⟩
  have hres : Tryz.f33.results = #[.cell 4 80, .tmp 5] := by kernel_rfl
  simp only [results, hres]
  go_simp

set_option maxHeartbeats 2000000 in
set_option maxRecDepth 10000 in
/-- a file -/
theorem node_file (base b m c : Nat) (fx mn mx bt : Int) (left : List Im) (bs : List Blb) (x : Im) (nm : ByteArray) (w : World) (h : Pq base b m fx mn mx bt c w left bs) (hk : x.kind = 1) (hc : c < 900000000) (hw : wayN fx mn mx bt = 0) (hs : x.bytes.size ≤ 4096)
    (hln : ∀ W, Calls Tryz.prog 50 #[.string x.path] W fun e w' => e = .returned (.string nm) ∧ w' = W) (R : List Pk.Bl × List Wk.Bs × Int) (hR : R = Wk.pieces (cutF fx mn mx bt x.bytes.data.toList) (pl bs)) :
    Calls Tryz.prog 33 #[.pointer (some ⟨b, 0, none⟩), imV x] w fun e w' => ∃ a n c', e = .returned (.tuple #[.agg #[.string nm, .int .i64 1, .int .i64 x.mode, .int .i64 x.time, .int .i64 x.bytes.size, .slice a n c', .string ⟨#[]⟩], .int .i64 R.2.2]) ∧ Pf base w w' ∧
      (R.2.2 = 0 → w'.ownsRow w.heap.size 30 8 (.slice a n c') R.2.1.length (rowR idC R.2.1) ∧ (∀ t ∈ R.2.1, t.length = 8) ∧ R.2.1.length ≤ 257 ∧ ∃ bs', pl bs' = R.1 ∧ Pq base b m fx mn mx bt (c + 257) w' left bs') := by
  have hbase := h.base
  obtain ⟨path, kind, mode, time, bytes⟩ := x
  dsimp only at hk hln hs hR ⊢
  subst hk
  obtain ⟨W2, hW2⟩ : ∃ W2, W2 = (w.alloc (.cells #[.string path, .int .i64 1, .int .i64 mode, .int .i64 time, .string bytes] 36)).alloc (.cells #[.string ⟨#[]⟩, .int .i64 0, .int .i64 0, .int .i64 0, .int .i64 0, .slice none 0 0, .string ⟨#[]⟩] 80) := ⟨_, rfl⟩
  obtain ⟨t1, t2, t3, t4⟩ := two_new w (.cells #[.string path, .int .i64 1, .int .i64 mode, .int .i64 time, .string bytes] 36) (.cells #[.string ⟨#[]⟩, .int .i64 0, .int .i64 0, .int .i64 0, .int .i64 0, .slice none 0 0, .string ⟨#[]⟩] 80)
  rw [← hW2] at t1 t2 t3 t4
  have HQ : Hid (Pq base b m fx mn mx bt c w left bs) := h
  have HT : Hid (W2.heap[w.heap.size]? = some (.cells #[.string path, .int .i64 1, .int .i64 mode, .int .i64 time, .string bytes] 36 (0, 0)) ∧ W2.heap[w.heap.size + 1]? = some (.cells #[.string ⟨#[]⟩, .int .i64 0, .int .i64 0, .int .i64 0, .int .i64 0, .slice none 0 0, .string ⟨#[]⟩] 80 (0, 0)) ∧ W2.heap.size = w.heap.size + 2 ∧ Below w.heap.size w W2) := ⟨t1, t2, t3, t4⟩
  clear h t1 t2 t3 t4
  have H0 : Hid (∀ W, Gw W2 W → W.cell? ⟨w.heap.size, 0, none⟩ = some (.string path) ∧ W.cell? ⟨w.heap.size, 1, none⟩ = some (.int .i64 1) ∧ W.cell? ⟨w.heap.size, 2, none⟩ = some (.int .i64 mode) ∧ W.cell? ⟨w.heap.size, 3, none⟩ = some (.int .i64 time) ∧ W.cell? ⟨w.heap.size, 4, none⟩ = some (.string bytes)) := fun W hW => by
    have := five_at ((Below.block hW _ (Array.getElem?_eq_some_iff.1 HT.out.1).1).trans HT.out.1)
    exact ⟨this.1, this.2.1, this.2.2.1, this.2.2.2.1, this.2.2.2.2.1⟩
  go_enter Tryz.func33, Tryz.ntmps33
  go_upto_region 1 with fail
  rw [← hW2]
  clear hW2
  refine wp_region_rel_tail (G := Gw) (W0 := W2) 11 1 Gw.refl Gw.trans (by kernel_rfl) (by decide) (by kernel_rfl) (by kernel_rfl) (.inr (by kernel_rfl)) (Below.refl _ W2).drew ?_
  refine .inl ⟨.pointer (some ⟨w.heap.size, 0, none⟩), fun v W hW hd => step_run rfl _ W (by clear hd; go_simp) rfl (Gw.refl _), ?_⟩
  simp only [Act.put, List.setIfInBounds_toArray, List.set_cons_zero, List.set_cons_succ]
  refine .inl ⟨.string path, fun v W hW hd => step_run rfl _ W (by clear hd; obtain ⟨c0, c1, c2, c3, c4⟩ := H0.out W hW; go_simp) rfl (Gw.refl _), ?_⟩
  simp only [Act.put, List.setIfInBounds_toArray, List.set_cons_zero, List.set_cons_succ]
  refine .inl ⟨.string nm, fun v W hW hd => step_call rfl 50 #[.string path] (by clear hd; go_simp) ((hln W).mono fun e w' h => ⟨_, h.1, rfl, by rw [h.2]; exact Gw.refl _⟩), ?_⟩
  simp only [Act.put, List.setIfInBounds_toArray, List.set_cons_zero, List.set_cons_succ]
  refine .inl ⟨.pointer (some ⟨w.heap.size, 1, none⟩), fun v W hW hd => step_run rfl _ W (by clear hd; go_simp) rfl (Gw.refl _), ?_⟩
  simp only [Act.put, List.setIfInBounds_toArray, List.set_cons_zero, List.set_cons_succ]
  refine .inl ⟨.int .i64 1, fun v W hW hd => step_run rfl _ W (by clear hd; obtain ⟨c0, c1, c2, c3, c4⟩ := H0.out W hW; go_simp) rfl (Gw.refl _), ?_⟩
  simp only [Act.put, List.setIfInBounds_toArray, List.set_cons_zero, List.set_cons_succ]
  refine .inl ⟨.pointer (some ⟨w.heap.size, 2, none⟩), fun v W hW hd => step_run rfl _ W (by clear hd; go_simp) rfl (Gw.refl _), ?_⟩
  simp only [Act.put, List.setIfInBounds_toArray, List.set_cons_zero, List.set_cons_succ]
  refine .inl ⟨.int .i64 mode, fun v W hW hd => step_run rfl _ W (by clear hd; obtain ⟨c0, c1, c2, c3, c4⟩ := H0.out W hW; go_simp) rfl (Gw.refl _), ?_⟩
  simp only [Act.put, List.setIfInBounds_toArray, List.set_cons_zero, List.set_cons_succ]
  refine .inl ⟨.pointer (some ⟨w.heap.size, 3, none⟩), fun v W hW hd => step_run rfl _ W (by clear hd; go_simp) rfl (Gw.refl _), ?_⟩
  simp only [Act.put, List.setIfInBounds_toArray, List.set_cons_zero, List.set_cons_succ]
  refine .inl ⟨.int .i64 time, fun v W hW hd => step_run rfl _ W (by clear hd; obtain ⟨c0, c1, c2, c3, c4⟩ := H0.out W hW; go_simp) rfl (Gw.refl _), ?_⟩
  simp only [Act.put, List.setIfInBounds_toArray, List.set_cons_zero, List.set_cons_succ]
  refine .inl ⟨.agg #[.string nm, .int .i64 1, .int .i64 mode, .int .i64 time, .int .i64 0, .slice none 0 0, .string ⟨#[]⟩], fun v W hW hd => step_run rfl _ W (by clear hd; go_simp) rfl (Gw.refl _), ?_⟩
  simp only [Act.put, List.setIfInBounds_toArray, List.set_cons_zero, List.set_cons_succ]
  refine .inr ⟨Nz (w.heap.size + 2), Nz.mono, fun v W hW hd => step_run rfl _ (W.alloc (.cells #[.string ⟨#[]⟩, .int .i64 0, .int .i64 0, .int .i64 0, .int .i64 0, .slice none 0 0, .string ⟨#[]⟩] 80)) (by clear hd; go_simp) ⟨_, rfl, heap_alloc_new W _, Nat.le_trans (Nat.le_of_eq HT.out.2.2.1.symm) (Below.size hW)⟩ ((Below.refl _ W).alloc (Nat.le_refl _) _), ?_⟩
  simp only [Act.put, List.setIfInBounds_toArray, List.set_cons_zero, List.set_cons_succ]
  intro v W hW hV
  have h10 : Nz (w.heap.size + 2) (v 10) W := hV 10 (by decide)
  clear hV
  obtain ⟨g, e10, hg, hge⟩ := h10
  simp only [Nat.reduceAdd]
  rw [e10]
  obtain ⟨z0, z1, z2, z3, z4, z5, z6, zlt⟩ := sev_at hg
  obtain ⟨f0, f1, f2, f3, f4, f5, f6⟩ := free7 hg
  have hs7 := seven_set hg (.string nm) (.int .i64 1) (.int .i64 mode) (.int .i64 time) (.int .i64 0) (.slice none 0 0) (.string ⟨#[]⟩)
  have hB4 : Below (w.heap.size + 2) W2 (set7 W g (.string nm) (.int .i64 1) (.int .i64 mode) (.int .i64 time) (.int .i64 0) (.slice none 0 0) (.string ⟨#[]⟩)) := below_set7 (Below.mono hW (Nat.le_of_eq HT.out.2.2.1.symm)) hge _ _ _ _ _ _ _
  obtain ⟨W4, hW4⟩ : ∃ W4, W4 = set7 W g (.string nm) (.int .i64 1) (.int .i64 mode) (.int .i64 time) (.int .i64 0) (.slice none 0 0) (.string ⟨#[]⟩) := ⟨_, rfl⟩
  rw [← hW4] at hs7 hB4
  have HNb : Hid (Nb w W4 ⟨path, 1, mode, time, bytes⟩ w.heap.size g #[.string nm, .int .i64 1, .int .i64 mode, .int .i64 time, .int .i64 0, .slice none 0 0, .string ⟨#[]⟩]) :=
    ⟨rfl, hge, (hB4.block _ (by omega)).trans HT.out.1, (hB4.block _ (by omega)).trans HT.out.2.1, hs7.1⟩
  have HB4 : Hid (Below w.heap.size w W4) := HT.out.2.2.2.trans (hB4.mono (by omega))
  clear hs7 hB4 e10 H0 hW HT hge zlt hln hg
  unfold set7 at hW4
  refine wpAny_ready (rs := [11]) (by kernel_rfl) (by simp) ?_
  refine AllReady.cons rfl (fun K hK => ?_) AllReady.nil
  rw [if_pos (by rfl)]
  go_simp
  rw [← hW4]
  clear hW4 z0 z1 z2 z3 z4 z5 z6 f0 f1 f2 f3 f4 f5 f6
  refine hK _ _ ?_
  clear hK K
  refine wpAny_done (by kernel_rfl) ?_ _
  have hgw : w.heap.size + 2 ≤ g := HNb.out.ge
  have hgne : g ≠ w.heap.size + 1 := by omega
  have hgne2 : w.heap.size + 1 ≠ g := by omega
  have HNb5 : Hid (Nb w (W4.setCell ⟨g, 4, none⟩ (.int .i64 bytes.size)) ⟨path, 1, mode, time, bytes⟩ w.heap.size g #[.string nm, .int .i64 1, .int .i64 mode, .int .i64 time, .int .i64 bytes.size, .slice none 0 0, .string ⟨#[]⟩]) := HNb.out.set 4 _ rfl
  have HB5 : Hid (Below w.heap.size w (W4.setCell ⟨g, 4, none⟩ (.int .i64 bytes.size))) := HB4.out.setCell (by show w.heap.size ≤ g; omega) _
  obtain ⟨W5, hW5⟩ : ∃ W5, W5 = W4.setCell ⟨g, 4, none⟩ (.int .i64 bytes.size) := ⟨_, rfl⟩
  rw [← hW5] at HNb5 HB5
  have hfile := file_any base b m c fx mn mx bt left bs bytes W5 (HQ.out.below HB5.out) hc hw hs R hR
  have hs5 : w.heap.size ≤ W5.heap.size := HB5.out.size
  have hsg : g < W5.heap.size := (Array.getElem?_eq_some_iff.1 HNb5.out.nd).1
  obtain ⟨i0, i1, i2, i3, i4, ilt⟩ := five_at HNb.out.it
  obtain ⟨n0, n1, n2, n3, n4, n5, n6, nlt⟩ := sev_at HNb.out.nd
  obtain ⟨f0, f1, f2, f3, f4, f5, f6⟩ := free7 HNb.out.nd
  obtain ⟨j0, j1, j2, j3, j4, jlt⟩ := five_at HNb5.out.it
  clear hR hw hs hc
  go_upto_region 6 with fail
  rw [← hW5]
  clear hW5 i0 i1 i2 i3 i4 n0 n1 n2 n3 n4 n5 n6 f0 f1 f2 f3 f4 f5 f6 nlt
  go_wp2_with fail
  refine hfile.mono ?_
  rintro e w6 ⟨v, rfl, hf6, hv0, hok⟩
  have hform : ∃ a n c', v = .slice a n c' := by
    by_cases hE : R.2.2 = 0
    · obtain ⟨a, c', e⟩ := own_form (hok hE).1
      exact ⟨a, _, c', e⟩
    · exact ⟨none, 0, 0, hv0 hE⟩
  obtain ⟨a, n, c', rfl⟩ := hform
  have HOK : Hid (R.2.2 = 0 → w6.ownsRow W5.heap.size 30 8 (.slice a n c') R.2.1.length (rowR idC R.2.1) ∧ (∀ t ∈ R.2.1, t.length = 8) ∧ R.2.1.length ≤ 257 ∧ ∃ bs', pl bs' = R.1 ∧ Pq base b m fx mn mx bt (c + 257) w6 left bs') := hok
  have HNb6 : Hid (Nb w w6 ⟨path, 1, mode, time, bytes⟩ w.heap.size g #[.string nm, .int .i64 1, .int .i64 mode, .int .i64 time, .int .i64 bytes.size, .slice none 0 0, .string ⟨#[]⟩]) := HNb5.out.pf hf6
  have HF6 : Hid (Pf base w w6) := (Pf.of_below HB5.out hbase).trans hf6
  obtain ⟨n0, n1, n2, n3, n4, n5, n6, nlt⟩ := sev_at HNb6.out.nd
  obtain ⟨f0, f1, f2, f3, f4, f5, f6⟩ := free7 HNb6.out.nd
  obtain ⟨r0, r1, r2, r3, r4, r5, r6, rlt⟩ := sev_at HNb6.out.res
  obtain ⟨g0, g1, g2, g3, g4, g5, g6⟩ := free7 HNb6.out.res
  have HNb7 : Hid (Nb w (w6.setCell ⟨g, 5, none⟩ (.slice a n c')) ⟨path, 1, mode, time, bytes⟩ w.heap.size g #[.string nm, .int .i64 1, .int .i64 mode, .int .i64 time, .int .i64 bytes.size, .slice a n c', .string ⟨#[]⟩]) := HNb6.out.set 5 _ rfl
  have HB9 : Hid (Below w.heap.size w6 (set7 (w6.setCell ⟨g, 5, none⟩ (.slice a n c')) (w.heap.size + 1) (.string nm) (.int .i64 1) (.int .i64 mode) (.int .i64 time) (.int .i64 bytes.size) (.slice a n c') (.string ⟨#[]⟩))) :=
    below_set7 ((Below.refl _ w6).setCell (by show w.heap.size ≤ g; omega) _) (by omega) _ _ _ _ _ _ _
  have HK9 : Hid (Kt 80 w6 (set7 (w6.setCell ⟨g, 5, none⟩ (.slice a n c')) (w.heap.size + 1) (.string nm) (.int .i64 1) (.int .i64 mode) (.int .i64 time) (.int .i64 bytes.size) (.slice a n c') (.string ⟨#[]⟩))) :=
    (Kt.set HNb6.out.nd 5 _).trans (seven_set HNb7.out.res _ _ _ _ _ _ _).2
  clear hok hv0 hf6 hfile
  go_wp2_with fail
  refine bodyPost_ret (v := .tuple #[.agg #[.string nm, .int .i64 1, .int .i64 mode, .int .i64 time, .int .i64 bytes.size, .slice a n c', .string ⟨#[]⟩], .int .i64 R.2.2]) ?_ rfl ⟨a, n, c', rfl, HF6.out.then HB9.out hbase, fun hE => ?_⟩
  · have hres : Tryz.f33.results = #[.cell 4 80, .tmp 5] := by kernel_rfl
    simp only [results, hres]
    go_simp
  · obtain ⟨o1, o2, o3, bs', o4, o5⟩ := HOK.out hE
    exact ⟨own_lower (own_kt o1 HK9.out (by decide)) hs5, o2, o3, bs', o4, o5.kt HK9.out (HB9.out.mono hbase) (by decide) (by decide)⟩

theorem I8.zero {W : World} {G : Nat} {t : TypeId} (h : W.heap[G]? = some (.cells Z8 t (0, 0))) : I8 W G (List.replicate 8 0) := by
  refine ⟨by simp, fun j hj => ?_, fun j _ => by simp [World.frozen?, h], (Array.getElem?_eq_some_iff.1 h).1⟩
  rw [List.getD_eq_getElem?_getD, List.getElem?_replicate, if_pos hj, cell_of_row _ G j _ _ _ h]
  match j, hj with
  | 0, _ | 1, _ | 2, _ | 3, _ | 4, _ | 5, _ | 6, _ | 7, _ => rfl

theorem I8.kt8 {T : TypeId} {W : World} {G : Nat} {cur : Array Value} {fr : Nat × Nat} (h : W.heap[G]? = some (.cells cur T fr)) (b0 b1 b2 b3 b4 b5 b6 b7 : UInt8) : Kt T W (set8 W G b0 b1 b2 b3 b4 b5 b6 b7) := by
  have hk := kept_not8 W G b0 b1 b2 b3 b4 b5 b6 b7
  refine ⟨hk.os, hk.tape, hk.output, hk.size, fun k o ho hn => ?_⟩
  by_cases e : k = G
  · subst e
    rw [h] at ho
    cases ho
    exact absurd ⟨_, _, rfl⟩ hn
  · exact hk.obj e ho

/-- an ID in a block of its own, as a row -/
theorem one_id (W : World) (b0 b1 b2 b3 b4 b5 b6 b7 : UInt8) : (W.alloc (.cells #[.int .u8 (b0.toNat : Int), .int .u8 (b1.toNat : Int), .int .u8 (b2.toNat : Int), .int .u8 (b3.toNat : Int), .int .u8 (b4.toNat : Int), .int .u8 (b5.toNat : Int), .int .u8 (b6.toNat : Int), .int .u8 (b7.toNat : Int)] 30)).ownsRow W.heap.size 30 8 (.slice (some ⟨W.heap.size, 0, none⟩) 1 1) 1 (idC [b0, b1, b2, b3, b4, b5, b6, b7]) :=
  ⟨rfl, .inr ⟨W.heap.size, 1, #[.int .u8 (b0.toNat : Int), .int .u8 (b1.toNat : Int), .int .u8 (b2.toNat : Int), .int .u8 (b3.toNat : Int), .int .u8 (b4.toNat : Int), .int .u8 (b5.toNat : Int), .int .u8 (b6.toNat : Int), .int .u8 (b7.toNat : Int)], rfl, Nat.le_refl _, heap_alloc_new W _, Nat.le_refl _, by unfold maxLen; omega, rfl, rfl⟩⟩

set_option maxHeartbeats 4000000 in
set_option maxRecDepth 10000 in
/-- a directory -/
theorem node_dir (base b m c c' : Nat) (fx mn mx bt : Int) (left left' : List Im) (bs : List Blb) (x : Im) (nm : ByteArray) (w : World) (h : Pq base b m fx mn mx bt c w left bs) (hk : x.kind = 2)
    (hln : ∀ W, Calls Tryz.prog 50 #[.string x.path] W fun e w' => e = .returned (.string nm) ∧ w' = W) (R : List Pk.Bl × Wk.Bs × Int)
    (hd : ∀ W, Below base w W → Pq base b m fx mn mx bt c W left bs → Calls Tryz.prog 19 #[.pointer (some ⟨b, 0, none⟩), .string x.path] W fun e w' => ∃ id, e = .returned (.tuple #[idV id, .int .i64 R.2.2]) ∧ id.length = 8 ∧ Pf base W w' ∧ (R.2.2 = 0 → id = R.2.1 ∧ ∃ bs', pl bs' = R.1 ∧ Pq base b m fx mn mx bt c' w' left' bs')) :
    Calls Tryz.prog 33 #[.pointer (some ⟨b, 0, none⟩), imV x] w fun e w' => ∃ a id, e = .returned (.tuple #[.agg #[.string nm, .int .i64 2, .int .i64 x.mode, .int .i64 x.time, .int .i64 0, .slice a 1 1, .string ⟨#[]⟩], .int .i64 R.2.2]) ∧ Pf base w w' ∧
      id.length = 8 ∧ w'.ownsRow w.heap.size 30 8 (.slice a 1 1) 1 (idC id) ∧ (R.2.2 = 0 → id = R.2.1 ∧ ∃ bs', pl bs' = R.1 ∧ Pq base b m fx mn mx bt c' w' left' bs') := by
  have hbase := h.base
  obtain ⟨path, kind, mode, time, bytes⟩ := x
  dsimp only at hk hln hd ⊢
  subst hk
  obtain ⟨W2, hW2⟩ : ∃ W2, W2 = (w.alloc (.cells #[.string path, .int .i64 2, .int .i64 mode, .int .i64 time, .string bytes] 36)).alloc (.cells #[.string ⟨#[]⟩, .int .i64 0, .int .i64 0, .int .i64 0, .int .i64 0, .slice none 0 0, .string ⟨#[]⟩] 80) := ⟨_, rfl⟩
  obtain ⟨t1, t2, t3, t4⟩ := two_new w (.cells #[.string path, .int .i64 2, .int .i64 mode, .int .i64 time, .string bytes] 36) (.cells #[.string ⟨#[]⟩, .int .i64 0, .int .i64 0, .int .i64 0, .int .i64 0, .slice none 0 0, .string ⟨#[]⟩] 80)
  rw [← hW2] at t1 t2 t3 t4
  have HQ : Hid (Pq base b m fx mn mx bt c w left bs) := h
  have HT : Hid (W2.heap[w.heap.size]? = some (.cells #[.string path, .int .i64 2, .int .i64 mode, .int .i64 time, .string bytes] 36 (0, 0)) ∧ W2.heap[w.heap.size + 1]? = some (.cells #[.string ⟨#[]⟩, .int .i64 0, .int .i64 0, .int .i64 0, .int .i64 0, .slice none 0 0, .string ⟨#[]⟩] 80 (0, 0)) ∧ W2.heap.size = w.heap.size + 2 ∧ Below w.heap.size w W2) := ⟨t1, t2, t3, t4⟩
  clear h t1 t2 t3 t4
  have H0 : Hid (∀ W, Gw W2 W → W.cell? ⟨w.heap.size, 0, none⟩ = some (.string path) ∧ W.cell? ⟨w.heap.size, 1, none⟩ = some (.int .i64 2) ∧ W.cell? ⟨w.heap.size, 2, none⟩ = some (.int .i64 mode) ∧ W.cell? ⟨w.heap.size, 3, none⟩ = some (.int .i64 time) ∧ W.cell? ⟨w.heap.size, 4, none⟩ = some (.string bytes)) := fun W hW => by
    have := five_at ((Below.block hW _ (Array.getElem?_eq_some_iff.1 HT.out.1).1).trans HT.out.1)
    exact ⟨this.1, this.2.1, this.2.2.1, this.2.2.2.1, this.2.2.2.2.1⟩
  go_enter Tryz.func33, Tryz.ntmps33
  go_upto_region 1 with fail
  rw [← hW2]
  clear hW2
  refine wp_region_rel_tail (G := Gw) (W0 := W2) 11 1 Gw.refl Gw.trans (by kernel_rfl) (by decide) (by kernel_rfl) (by kernel_rfl) (.inr (by kernel_rfl)) (Below.refl _ W2).drew ?_
  refine .inl ⟨.pointer (some ⟨w.heap.size, 0, none⟩), fun v W hW hd => step_run rfl _ W (by clear hd; go_simp) rfl (Gw.refl _), ?_⟩
  simp only [Act.put, List.setIfInBounds_toArray, List.set_cons_zero, List.set_cons_succ]
  refine .inl ⟨.string path, fun v W hW hd => step_run rfl _ W (by clear hd; obtain ⟨c0, c1, c2, c3, c4⟩ := H0.out W hW; go_simp) rfl (Gw.refl _), ?_⟩
  simp only [Act.put, List.setIfInBounds_toArray, List.set_cons_zero, List.set_cons_succ]
  refine .inl ⟨.string nm, fun v W hW hd => step_call rfl 50 #[.string path] (by clear hd; go_simp) ((hln W).mono fun e w' h => ⟨_, h.1, rfl, by rw [h.2]; exact Gw.refl _⟩), ?_⟩
  simp only [Act.put, List.setIfInBounds_toArray, List.set_cons_zero, List.set_cons_succ]
  refine .inl ⟨.pointer (some ⟨w.heap.size, 1, none⟩), fun v W hW hd => step_run rfl _ W (by clear hd; go_simp) rfl (Gw.refl _), ?_⟩
  simp only [Act.put, List.setIfInBounds_toArray, List.set_cons_zero, List.set_cons_succ]
  refine .inl ⟨.int .i64 2, fun v W hW hd => step_run rfl _ W (by clear hd; obtain ⟨c0, c1, c2, c3, c4⟩ := H0.out W hW; go_simp) rfl (Gw.refl _), ?_⟩
  simp only [Act.put, List.setIfInBounds_toArray, List.set_cons_zero, List.set_cons_succ]
  refine .inl ⟨.pointer (some ⟨w.heap.size, 2, none⟩), fun v W hW hd => step_run rfl _ W (by clear hd; go_simp) rfl (Gw.refl _), ?_⟩
  simp only [Act.put, List.setIfInBounds_toArray, List.set_cons_zero, List.set_cons_succ]
  refine .inl ⟨.int .i64 mode, fun v W hW hd => step_run rfl _ W (by clear hd; obtain ⟨c0, c1, c2, c3, c4⟩ := H0.out W hW; go_simp) rfl (Gw.refl _), ?_⟩
  simp only [Act.put, List.setIfInBounds_toArray, List.set_cons_zero, List.set_cons_succ]
  refine .inl ⟨.pointer (some ⟨w.heap.size, 3, none⟩), fun v W hW hd => step_run rfl _ W (by clear hd; go_simp) rfl (Gw.refl _), ?_⟩
  simp only [Act.put, List.setIfInBounds_toArray, List.set_cons_zero, List.set_cons_succ]
  refine .inl ⟨.int .i64 time, fun v W hW hd => step_run rfl _ W (by clear hd; obtain ⟨c0, c1, c2, c3, c4⟩ := H0.out W hW; go_simp) rfl (Gw.refl _), ?_⟩
  simp only [Act.put, List.setIfInBounds_toArray, List.set_cons_zero, List.set_cons_succ]
  refine .inl ⟨.agg #[.string nm, .int .i64 2, .int .i64 mode, .int .i64 time, .int .i64 0, .slice none 0 0, .string ⟨#[]⟩], fun v W hW hd => step_run rfl _ W (by clear hd; go_simp) rfl (Gw.refl _), ?_⟩
  simp only [Act.put, List.setIfInBounds_toArray, List.set_cons_zero, List.set_cons_succ]
  refine .inr ⟨Nz (w.heap.size + 2), Nz.mono, fun v W hW hd => step_run rfl _ (W.alloc (.cells #[.string ⟨#[]⟩, .int .i64 0, .int .i64 0, .int .i64 0, .int .i64 0, .slice none 0 0, .string ⟨#[]⟩] 80)) (by clear hd; go_simp) ⟨_, rfl, heap_alloc_new W _, Nat.le_trans (Nat.le_of_eq HT.out.2.2.1.symm) (Below.size hW)⟩ ((Below.refl _ W).alloc (Nat.le_refl _) _), ?_⟩
  simp only [Act.put, List.setIfInBounds_toArray, List.set_cons_zero, List.set_cons_succ]
  intro v W hW hV
  have h10 : Nz (w.heap.size + 2) (v 10) W := hV 10 (by decide)
  clear hV
  obtain ⟨g, e10, hg, hge⟩ := h10
  simp only [Nat.reduceAdd]
  rw [e10]
  obtain ⟨z0, z1, z2, z3, z4, z5, z6, zlt⟩ := sev_at hg
  obtain ⟨f0, f1, f2, f3, f4, f5, f6⟩ := free7 hg
  have hs7 := seven_set hg (.string nm) (.int .i64 2) (.int .i64 mode) (.int .i64 time) (.int .i64 0) (.slice none 0 0) (.string ⟨#[]⟩)
  have hB4 : Below (w.heap.size + 2) W2 (set7 W g (.string nm) (.int .i64 2) (.int .i64 mode) (.int .i64 time) (.int .i64 0) (.slice none 0 0) (.string ⟨#[]⟩)) := below_set7 (Below.mono hW (Nat.le_of_eq HT.out.2.2.1.symm)) hge _ _ _ _ _ _ _
  obtain ⟨W4, hW4⟩ : ∃ W4, W4 = set7 W g (.string nm) (.int .i64 2) (.int .i64 mode) (.int .i64 time) (.int .i64 0) (.slice none 0 0) (.string ⟨#[]⟩) := ⟨_, rfl⟩
  rw [← hW4] at hs7 hB4
  have HNb : Hid (Nb w W4 ⟨path, 2, mode, time, bytes⟩ w.heap.size g #[.string nm, .int .i64 2, .int .i64 mode, .int .i64 time, .int .i64 0, .slice none 0 0, .string ⟨#[]⟩]) :=
    ⟨rfl, hge, (hB4.block _ (by omega)).trans HT.out.1, (hB4.block _ (by omega)).trans HT.out.2.1, hs7.1⟩
  have HB4 : Hid (Below w.heap.size w W4) := HT.out.2.2.2.trans (hB4.mono (by omega))
  clear hs7 hB4 e10 H0 hW HT hge zlt hln hg
  unfold set7 at hW4
  refine wpAny_ready (rs := [11]) (by kernel_rfl) (by simp) ?_
  refine AllReady.cons rfl (fun K hK => ?_) AllReady.nil
  rw [if_pos (by rfl)]
  go_simp
  rw [← hW4]
  clear hW4 z0 z1 z2 z3 z4 z5 z6 f0 f1 f2 f3 f4 f5 f6
  refine hK _ _ ?_
  clear hK K
  refine wpAny_done (by kernel_rfl) ?_ _
  have hgw : w.heap.size + 2 ≤ g := HNb.out.ge
  have hgne : g ≠ w.heap.size + 1 := by omega
  have hgne2 : w.heap.size + 1 ≠ g := by omega
  obtain ⟨i0, i1, i2, i3, i4, ilt⟩ := five_at HNb.out.it
  have hsg : g < W4.heap.size := (Array.getElem?_eq_some_iff.1 HNb.out.nd).1
  obtain ⟨W5, hW5⟩ : ∃ W5, W5 = W4.alloc (.cells Z8 30) := ⟨_, rfl⟩
  have hB45 : Below W4.heap.size W4 W5 := by rw [hW5]; exact (Below.refl _ W4).alloc (Nat.le_refl _) _
  have HI5 : Hid (W5.heap[W4.heap.size]? = some (.cells Z8 30 (0, 0))) := by rw [hW5]; exact heap_alloc_new W4 _
  have HNb5 : Hid (Nb w W5 ⟨path, 2, mode, time, bytes⟩ w.heap.size g #[.string nm, .int .i64 2, .int .i64 mode, .int .i64 time, .int .i64 0, .slice none 0 0, .string ⟨#[]⟩]) := HNb.out.past hB45
  have HB5 : Hid (Below w.heap.size w W5) := HB4.out.trans (hB45.mono HB4.out.size)
  obtain ⟨j0, j1, j2, j3, j4, jlt⟩ := five_at HNb5.out.it
  have hd5 := hd W5 (HB5.out.mono hbase) (HQ.out.below HB5.out)
  have hs4 : w.heap.size ≤ W4.heap.size := HB4.out.size
  clear hd hB45
  go_upto_region 9 with fail
  rw [← hW5]
  clear hW5 i0 i1 i2 i3 i4
  go_wp2_with fail
  refine hd5.mono ?_
  rintro e w6 ⟨id, rfl, hid, hf6, hok⟩
  obtain ⟨b0, b1, b2, b3, b4, b5, b6, b7, rfl⟩ := eight id hid
  have eV : idV [b0, b1, b2, b3, b4, b5, b6, b7] = .agg #[.int .u8 (b0.toNat : Int), .int .u8 (b1.toNat : Int), .int .u8 (b2.toNat : Int), .int .u8 (b3.toNat : Int), .int .u8 (b4.toNat : Int), .int .u8 (b5.toNat : Int), .int .u8 (b6.toNat : Int), .int .u8 (b7.toNat : Int)] := rfl
  rw [eV]
  have HOK : Hid (R.2.2 = 0 → [b0, b1, b2, b3, b4, b5, b6, b7] = R.2.1 ∧ ∃ bs', pl bs' = R.1 ∧ Pq base b m fx mn mx bt c' w6 left' bs') := hok
  have HF6 : Hid (Pf base w w6) := (Pf.of_below HB5.out hbase).trans hf6
  have hI6 : w6.heap[W4.heap.size]? = some (.cells Z8 30 (0, 0)) := hf6.cells HI5.out (by decide) (by decide)
  have HNb6 : Hid (Nb w w6 ⟨path, 2, mode, time, bytes⟩ w.heap.size g #[.string nm, .int .i64 2, .int .i64 mode, .int .i64 time, .int .i64 0, .slice none 0 0, .string ⟨#[]⟩]) := HNb5.out.pf hf6
  have hX6 := I8.zero hI6
  obtain ⟨e0, e1, e2, e3, e4, e5, e6, e7⟩ := I8.cells (b0 := 0) (b1 := 0) (b2 := 0) (b3 := 0) (b4 := 0) (b5 := 0) (b6 := 0) (b7 := 0) hX6
  obtain ⟨f0, f1, f2, f3, f4, f5, f6, f7⟩ := hX6.free
  obtain ⟨W7, hW7⟩ : ∃ W7, W7 = set8 w6 W4.heap.size b0 b1 b2 b3 b4 b5 b6 b7 := ⟨_, rfl⟩
  have hX7 : I8 W7 W4.heap.size [b0, b1, b2, b3, b4, b5, b6, b7] := by rw [hW7]; exact hX6.store _ _ _ _ _ _ _ _
  have hB67 : Below W4.heap.size w6 W7 := by rw [hW7]; exact below_set8 (Below.refl _ _) (Nat.le_refl _) _ _ _ _ _ _ _ _
  have hK67 : Kt 30 w6 W7 := by rw [hW7]; exact I8.kt8 hI6 _ _ _ _ _ _ _ _
  have HNb7 : Hid (Nb w W7 ⟨path, 2, mode, time, bytes⟩ w.heap.size g #[.string nm, .int .i64 2, .int .i64 mode, .int .i64 time, .int .i64 0, .slice none 0 0, .string ⟨#[]⟩]) :=
    ⟨rfl, hgw, hK67.cell HNb6.out.it (by decide), hK67.cell HNb6.out.res (by decide), hK67.cell HNb6.out.nd (by decide)⟩
  unfold set8 at hW7
  simp only [B] at hW7
  obtain ⟨d0, d1, d2, d3, d4, d5, d6, d7⟩ := hX7.cells
  clear hok hf6 hid eV
  go_upto_region 10 with fail
  rw [← hW7]
  clear hW7 e0 e1 e2 e3 e4 e5 e6 e7 f0 f1 f2 f3 f4 f5 f6 f7 hX6 j0 j1 j2 j3 j4
  have hs7 : w.heap.size ≤ W7.heap.size := by have := hB67.size; have := HF6.out.size; omega
  have HNs : Hid (Nb w (W7.setCell ⟨g, 5, none⟩ (.slice (some ⟨W7.heap.size, 0, none⟩) 1 1)) ⟨path, 2, mode, time, bytes⟩ w.heap.size g #[.string nm, .int .i64 2, .int .i64 mode, .int .i64 time, .int .i64 0, .slice (some ⟨W7.heap.size, 0, none⟩) 1 1, .string ⟨#[]⟩]) := HNb7.out.set 5 _ rfl
  have hKs : Kt 80 W7 (W7.setCell ⟨g, 5, none⟩ (.slice (some ⟨W7.heap.size, 0, none⟩) 1 1)) := Kt.set HNb7.out.nd 5 _
  have hss : (W7.setCell ⟨g, 5, none⟩ (.slice (some ⟨W7.heap.size, 0, none⟩) 1 1)).heap.size = W7.heap.size := by simp [World.setCell]
  have hBs : Below w.heap.size W7 (W7.setCell ⟨g, 5, none⟩ (.slice (some ⟨W7.heap.size, 0, none⟩) 1 1)) := (Below.refl _ W7).setCell (by show w.heap.size ≤ g; omega) _
  obtain ⟨W8, hW8⟩ : ∃ W8, W8 = (W7.setCell ⟨g, 5, none⟩ (.slice (some ⟨W7.heap.size, 0, none⟩) 1 1)).alloc (.cells #[.int .u8 (b0.toNat : Int), .int .u8 (b1.toNat : Int), .int .u8 (b2.toNat : Int), .int .u8 (b3.toNat : Int), .int .u8 (b4.toNat : Int), .int .u8 (b5.toNat : Int), .int .u8 (b6.toNat : Int), .int .u8 (b7.toNat : Int)] 30) := ⟨_, rfl⟩
  have hB78 : Below W7.heap.size (W7.setCell ⟨g, 5, none⟩ (.slice (some ⟨W7.heap.size, 0, none⟩) 1 1)) W8 := by rw [hW8]; exact (Below.refl _ _).alloc (Nat.le_of_eq hss.symm) _
  have HO8 : Hid (W8.ownsRow W7.heap.size 30 8 (.slice (some ⟨W7.heap.size, 0, none⟩) 1 1) 1 (idC [b0, b1, b2, b3, b4, b5, b6, b7])) := by
    have := one_id (W7.setCell ⟨g, 5, none⟩ (.slice (some ⟨W7.heap.size, 0, none⟩) 1 1)) b0 b1 b2 b3 b4 b5 b6 b7
    rw [hss] at this
    rw [hW8]
    exact this
  have HNb9 : Hid (Nb w W8 ⟨path, 2, mode, time, bytes⟩ w.heap.size g #[.string nm, .int .i64 2, .int .i64 mode, .int .i64 time, .int .i64 0, .slice (some ⟨W7.heap.size, 0, none⟩) 1 1, .string ⟨#[]⟩]) := HNs.out.past (by rw [hss]; exact hB78)
  have HB9 : Hid (Below w.heap.size W8 (set7 W8 (w.heap.size + 1) (.string nm) (.int .i64 2) (.int .i64 mode) (.int .i64 time) (.int .i64 0) (.slice (some ⟨W7.heap.size, 0, none⟩) 1 1) (.string ⟨#[]⟩))) :=
    below_set7 (Below.refl _ W8) (by omega) _ _ _ _ _ _ _
  have HK9 : Hid (Kt 80 W8 (set7 W8 (w.heap.size + 1) (.string nm) (.int .i64 2) (.int .i64 mode) (.int .i64 time) (.int .i64 0) (.slice (some ⟨W7.heap.size, 0, none⟩) 1 1) (.string ⟨#[]⟩))) :=
    (seven_set HNb9.out.res _ _ _ _ _ _ _).2
  have HK8 : Hid (Kt 30 w6 W7) := hK67
  have HK8s : Hid (Kt 80 W7 W8) := hKs.trans (Kt.of_below (by rw [hss]; exact hB78))
  have HB8 : Hid (Below w.heap.size w6 W7) := hB67.mono hs4
  have HB8s : Hid (Below w.heap.size W7 W8) := hBs.trans (hB78.mono hs7)
  obtain ⟨n0, n1, n2, n3, n4, n5, n6, nlt⟩ := sev_at HNb9.out.nd
  obtain ⟨r0, r1, r2, r3, r4, r5, r6, rlt⟩ := sev_at HNb9.out.res
  obtain ⟨g0, g1, g2, g3, g4, g5, g6⟩ := free7 HNb9.out.res
  obtain ⟨m0, m1, m2, m3, m4, m5, m6, mlt⟩ := sev_at HNb7.out.nd
  obtain ⟨q0, q1, q2, q3, q4, q5, q6⟩ := free7 HNb7.out.nd
  clear hX7 hB67 hK67 hB78 hss hBs hKs
  go_upto_region 13 with fail
  rw [← hW8]
  clear hW8 m0 m1 m2 m3 m4 m5 m6 mlt q0 q1 q2 q3 q4 q5 q6 d0 d1 d2 d3 d4 d5 d6 d7
  go_wp2_with fail
  refine bodyPost_ret (v := .tuple #[.agg #[.string nm, .int .i64 2, .int .i64 mode, .int .i64 time, .int .i64 0, .slice (some ⟨W7.heap.size, 0, none⟩) 1 1, .string ⟨#[]⟩], .int .i64 R.2.2]) ?_ rfl ⟨_, [b0, b1, b2, b3, b4, b5, b6, b7], rfl, ((HF6.out.then HB8.out hbase).then HB8s.out hbase).then HB9.out hbase, rfl, own_lower (own_kt HO8.out HK9.out (by decide)) hs7, fun hE => ?_⟩
  · have hres : Tryz.f33.results = #[.cell 4 80, .tmp 5] := by kernel_rfl
    simp only [results, hres]
    go_simp
  · obtain ⟨o1, bs', o4, o5⟩ := HOK.out hE
    exact ⟨o1, bs', o4, ((o5.kt HK8.out (HB8.out.mono hbase) (by decide) (by decide)).kt HK8s.out (HB8s.out.mono hbase) (by decide) (by decide)).kt HK9.out (HB9.out.mono hbase) (by decide) (by decide)⟩

end Go.Proofs.YtimdioacmojkeabGreatDoor

namespace Go.Proofs.YtimdioacmojkeabGreatDoor
namespace Td

/-- what is left, and the first error -/
abbrev St := Bs × Int

def tk (k : Nat) (e : Int) (x : St) : Bool × St := if x.2 ≠ 0 then (false, x) else if e ≠ 0 then (false, (x.1, e)) else (true, (x.1.drop k, 0))

def nuE (most : Nat) (s : Bs) : Int := if (Nm.getN s).2.2 = 0 ∧ most < (Nm.getN s).1 then 2 else (Nm.getN s).2.2

def sNum (most : Nat) (x : St) : Nat × St := (if (tk (Nm.getN x.1).2.1 (nuE most x.1) x).1 = true then (Nm.getN x.1).1 else 0, (tk (Nm.getN x.1).2.1 (nuE most x.1) x).2)

def sInt (x : St) : Int × St := (if (tk (Nm.getI x.1).2.1 (Nm.getI x.1).2.2 x).1 = true then (Nm.getI x.1).1 else 0, (tk (Nm.getI x.1).2.1 (Nm.getI x.1).2.2 x).2)

def sTxt (x : St) : Bs × St := (if (tk (Nm.getT x.1).2.1 (Nm.getT x.1).2.2 x).1 = true then (Nm.getT x.1).1 else [], (tk (Nm.getT x.1).2.1 (Nm.getT x.1).2.2 x).2)

def shE (k : Nat) (s : Bs) : Int := if s.length < k then 3 else 0

def sByt (k : Nat) (x : St) : Bs × St := (if (tk k (shE k x.1) x).1 = true then x.1.take k else [], (tk k (shE k x.1) x).2)

def sKind (x : St) : Nat × St := (((sByt 1 x).1.headD 0).toNat, (sByt 1 x).2)

def eight (s : Bs) : Bs := s ++ List.replicate (8 - s.length) 0

def sIds : Nat → St → List Bs × St
  | 0, x => ([], x)
  | j + 1, x => ((sIds j x).1 ++ [eight (sByt 8 (sIds j x).2).1], (sByt 8 (sIds j x).2).2)

def sParts (x : St) : List Bs × St := sIds (sNum 300 x).1 (sNum 300 x).2

def sNode (x : St) : Nd × St :=
  let a := sTxt x
  let b := sKind a.2
  let c := sNum 511 b.2
  let d := sInt c.2
  let e := sNum 4096 d.2
  let f := sParts e.2
  let g := sTxt f.2
  (⟨a.1, b.1, c.1, d.1, e.1, f.1, g.1⟩, g.2)

def sAll : Nat → St → List Nd × St
  | 0, x => ([], x)
  | j + 1, x => ((sAll j x).1 ++ [(sNode (sAll j x).2).1], (sNode (sAll j x).2).2)

/-! what has an error stays -/
theorem tk_stay {k : Nat} {e : Int} {x : St} (h : x.2 ≠ 0) : tk k e x = (false, x) := by unfold tk; rw [if_pos h]

theorem tk_err {k : Nat} {e : Int} {s : Bs} (h : e ≠ 0) : tk k e (s, 0) = (false, (s, e)) := by unfold tk; rw [if_neg (fun q => q rfl), if_pos h]

theorem tk_ok {k : Nat} {s : Bs} : tk k 0 (s, 0) = (true, (s.drop k, 0)) := by unfold tk; rw [if_neg (fun q => q rfl), if_neg (fun q => q rfl)]

theorem sNum_stay {m : Nat} {x : St} (h : x.2 ≠ 0) : sNum m x = (0, x) := by unfold sNum; rw [tk_stay h]; rfl

theorem sInt_stay {x : St} (h : x.2 ≠ 0) : sInt x = (0, x) := by unfold sInt; rw [tk_stay h]; rfl

theorem sTxt_stay {x : St} (h : x.2 ≠ 0) : sTxt x = ([], x) := by unfold sTxt; rw [tk_stay h]; rfl

theorem sByt_stay {k : Nat} {x : St} (h : x.2 ≠ 0) : sByt k x = ([], x) := by unfold sByt; rw [tk_stay h]; rfl

theorem sKind_stay {x : St} (h : x.2 ≠ 0) : sKind x = (0, x) := by unfold sKind; rw [sByt_stay h]; rfl

theorem sIds_stay {x : St} (h : x.2 ≠ 0) : ∀ j, (sIds j x).2 = x
  | 0 => rfl
  | j + 1 => by
    have i := sIds_stay h j
    show (sByt 8 (sIds j x).2).2 = x
    rw [i, sByt_stay h]

theorem sParts_stay {x : St} (h : x.2 ≠ 0) : (sParts x).2 = x := by unfold sParts; rw [sNum_stay h]; rfl

theorem sNode_stay {x : St} (h : x.2 ≠ 0) : (sNode x).2 = x := by
  unfold sNode
  simp only [sTxt_stay h, sKind_stay h, sNum_stay h, sInt_stay h, sParts_stay h]

theorem sAll_stay {x : St} (h : x.2 ≠ 0) : ∀ j, (sAll j x).2 = x
  | 0 => rfl
  | j + 1 => by
    have i := sAll_stay h j
    show (sNode (sAll j x).2).2 = x
    rw [i, sNode_stay h]

/-! as the plain reading says -/
theorem sNum_ok {m n : Nat} {s r : Bs} (h : num m s = (n, r, 0)) : sNum m (s, 0) = (n, (r, 0)) := by
  unfold num at h
  simp only at h
  split at h
  · rename_i q; exact absurd (congrArg (fun q => q.2.2) h) q
  · rename_i q
    split at h
    · exact absurd (congrArg (fun q => q.2.2) h) (by simp)
    · rename_i q2
      have e1 : (Nm.getN s).1 = n := congrArg (fun q => q.1) h
      have e2 : s.drop (Nm.getN s).2.1 = r := congrArg (fun q => q.2.1) h
      have e3 : nuE m s = 0 := by unfold nuE; rw [if_neg (fun k => q2 k.2)]; exact Decidable.not_not.mp q
      unfold sNum
      simp only [e3, tk_ok, e1, e2, if_true]

theorem sNum_err {m n : Nat} {s r : Bs} {e : Int} (h : num m s = (n, r, e)) (he : e ≠ 0) : (sNum m (s, 0)).2 = (s, e) := by
  have : nuE m s = e := by
    unfold num at h
    simp only at h
    split at h
    · rename_i q
      unfold nuE
      rw [if_neg (fun k => q k.1)]
      exact congrArg (fun q => q.2.2) h
    · rename_i q
      split at h
      · rename_i q2
        unfold nuE
        rw [if_pos ⟨Decidable.not_not.mp q, q2⟩]
        exact congrArg (fun q => q.2.2) h
      · exact absurd (congrArg (fun q => q.2.2) h).symm he
  unfold sNum
  simp only [this, tk_err he]

theorem sInt_ok {k : Nat} {i : Int} {s : Bs} (h : Nm.getI s = (i, k, 0)) : sInt (s, 0) = (i, (s.drop k, 0)) := by
  unfold sInt; simp only [h, tk_ok, if_true]

theorem sInt_err {k : Nat} {i e : Int} {s : Bs} (h : Nm.getI s = (i, k, e)) (he : e ≠ 0) : (sInt (s, 0)).2 = (s, e) := by
  unfold sInt; simp only [h, tk_err he]

theorem sTxt_ok {k : Nat} {t s : Bs} (h : Nm.getT s = (t, k, 0)) : sTxt (s, 0) = (t, (s.drop k, 0)) := by
  unfold sTxt; simp only [h, tk_ok, if_true]

theorem sTxt_err {k : Nat} {e : Int} {t s : Bs} (h : Nm.getT s = (t, k, e)) (he : e ≠ 0) : (sTxt (s, 0)).2 = (s, e) := by
  unfold sTxt; simp only [h, tk_err he]

theorem sByt_ok {k : Nat} {s : Bs} (h : k ≤ s.length) : sByt k (s, 0) = (s.take k, (s.drop k, 0)) := by
  have : shE k s = 0 := by unfold shE; rw [if_neg (by omega)]
  unfold sByt; simp only [this, tk_ok, if_true]

theorem sByt_err {k : Nat} {s : Bs} (h : s.length < k) : (sByt k (s, 0)).2 = (s, 3) := by
  have : shE k s = 3 := by unfold shE; rw [if_pos h]
  unfold sByt; simp only [this, tk_err (show (3 : Int) ≠ 0 by decide)]

theorem sKind_ok {s : Bs} (h : s ≠ []) : sKind (s, 0) = ((s.headD 0).toNat, (s.tail, 0)) := by
  unfold sKind
  cases s with
  | nil => exact absurd rfl h
  | cons a b => rw [sByt_ok (by simp)]; simp

theorem sKind_err : (sKind ([], 0)).2 = ([], 3) := by unfold sKind; rw [sByt_err (by simp)]

theorem eights_snoc : ∀ (j : Nat) (l : Bs), eights (j + 1) l = eights j l ++ [(l.drop (8 * j)).take 8]
  | 0, l => rfl
  | j + 1, l => by
    rw [eights, eights_snoc j (l.drop 8), List.drop_drop, show 8 + 8 * j = 8 * (j + 1) from by omega]
    rfl

theorem eight_id {s : Bs} (h : s.length = 8) : eight s = s := by unfold eight; rw [h]; simp

theorem sIds_ok {s : Bs} : ∀ {j : Nat}, 8 * j ≤ s.length → sIds j (s, 0) = (eights j s, (s.drop (8 * j), 0))
  | 0, _ => rfl
  | j + 1, h => by
    have i := sIds_ok (s := s) (j := j) (by omega)
    have l8 : 8 ≤ (s.drop (8 * j)).length := by rw [List.length_drop]; omega
    rw [sIds, i]
    simp only
    rw [sByt_ok l8, eights_snoc, eight_id (by rw [List.length_take]; omega), List.drop_drop, show 8 * j + 8 = 8 * (j + 1) from by omega]

theorem sIds_err {s : Bs} : ∀ {j : Nat}, s.length < 8 * j → (sIds j (s, 0)).2.2 = 3
  | 0, h => absurd h (by omega)
  | j + 1, h => by
    show (sByt 8 (sIds j (s, 0)).2).2.2 = 3
    by_cases q : s.length < 8 * j
    · have i := sIds_err q
      rw [sByt_stay (by rw [i]; decide)]
      exact i
    · rw [sIds_ok (by omega)]
      simp only
      rw [sByt_err (by rw [List.length_drop]; omega)]

theorem sNode_rd (s : Bs) : ((rdOne s).2.2 = 0 → sNode (s, 0) = ((rdOne s).1, ((rdOne s).2.1, 0))) ∧ ((rdOne s).2.2 ≠ 0 → (sNode (s, 0)).2.2 = (rdOne s).2.2) := by
  unfold rdOne sNode
  rcases ht : Nm.getT s with ⟨t, kt, et⟩
  simp only
  by_cases q1 : et ≠ 0
  · rw [if_pos q1]
    have k := sTxt_err ht q1
    have z : (sTxt (s, 0)).2.2 ≠ 0 := by rw [k]; exact q1
    simp only [sKind_stay z, sNum_stay z, sInt_stay z, sParts_stay z, sTxt_stay z]
    exact ⟨fun h => absurd h q1, fun _ => by rw [k]⟩
  obtain rfl := Decidable.not_not.mp q1
  rw [if_neg q1, sTxt_ok ht]
  simp only
  by_cases q2 : s.drop kt = []
  · rw [if_pos q2, q2]
    have k := sKind_err
    have z : (sKind ([], 0)).2.2 ≠ 0 := by rw [k]; decide
    simp only [sNum_stay z, sInt_stay z, sParts_stay z, sTxt_stay z]
    exact ⟨fun h => absurd h (by decide), fun _ => by rw [k]⟩
  rw [if_neg q2, sKind_ok q2]
  simp only
  rcases hm : num 511 (s.drop kt).tail with ⟨m, s2, em⟩
  simp only
  by_cases q3 : em ≠ 0
  · rw [if_pos q3]
    have k := sNum_err hm q3
    have z : (sNum 511 ((s.drop kt).tail, 0)).2.2 ≠ 0 := by rw [k]; exact q3
    simp only [sNum_stay z, sInt_stay z, sParts_stay z, sTxt_stay z]
    exact ⟨fun h => absurd h q3, fun _ => by rw [k]⟩
  obtain rfl := Decidable.not_not.mp q3
  rw [if_neg q3, sNum_ok hm]
  simp only
  rcases hi : Nm.getI s2 with ⟨i, ki, ei⟩
  simp only
  by_cases q4 : ei ≠ 0
  · rw [if_pos q4]
    have k := sInt_err hi q4
    have z : (sInt (s2, 0)).2.2 ≠ 0 := by rw [k]; exact q4
    simp only [sNum_stay z, sParts_stay z, sTxt_stay z]
    exact ⟨fun h => absurd h q4, fun _ => by rw [k]⟩
  obtain rfl := Decidable.not_not.mp q4
  rw [if_neg q4, sInt_ok hi]
  simp only
  rcases hz : num 4096 (s2.drop ki) with ⟨z, s3, ez⟩
  simp only
  by_cases q5 : ez ≠ 0
  · rw [if_pos q5]
    have k := sNum_err hz q5
    have z : (sNum 4096 (s2.drop ki, 0)).2.2 ≠ 0 := by rw [k]; exact q5
    simp only [sParts_stay z, sTxt_stay z]
    exact ⟨fun h => absurd h q5, fun _ => by rw [k]⟩
  obtain rfl := Decidable.not_not.mp q5
  rw [if_neg q5, sNum_ok hz]
  simp only
  rcases hp : num 300 s3 with ⟨p, s4, ep⟩
  simp only
  by_cases q6 : ep ≠ 0
  · rw [if_pos q6]
    have k := sNum_err hp q6
    have z : (sParts (s3, 0)).2 = (s3, ep) := by
      unfold sParts
      rw [sIds_stay (by rw [k]; exact q6), k]
    have z2 : (sParts (s3, 0)).2.2 ≠ 0 := by rw [z]; exact q6
    simp only [sTxt_stay z2]
    exact ⟨fun h => absurd h q6, fun _ => by rw [z]⟩
  obtain rfl := Decidable.not_not.mp q6
  rw [if_neg q6]
  have hsp : sParts (s3, 0) = sIds p (s4, 0) := by unfold sParts; rw [sNum_ok hp]
  rw [hsp]
  by_cases q7 : s4.length < 8 * p
  · rw [if_pos q7]
    have k := sIds_err q7
    have z : (sIds p (s4, 0)).2.2 ≠ 0 := by rw [k]; decide
    simp only [sTxt_stay z]
    exact ⟨fun h => absurd h (by decide), fun _ => k⟩
  rw [if_neg q7, sIds_ok (by omega)]
  simp only
  rcases hk : Nm.getT (s4.drop (8 * p)) with ⟨k, kk, ek⟩
  simp only
  by_cases q8 : ek ≠ 0
  · rw [if_pos q8]
    have k := sTxt_err hk q8
    exact ⟨fun h => absurd h q8, fun _ => by rw [k]⟩
  obtain rfl := Decidable.not_not.mp q8
  rw [if_neg q8, sTxt_ok hk]
  exact ⟨fun _ => rfl, fun h => absurd rfl h⟩

theorem sAll_rd (s : Bs) (m : Nat) : ∀ j, j ≤ m → ((sAll j (s, 0)).2.2 = 0 → rdAll m s [] = rdAll (m - j) (sAll j (s, 0)).2.1 (sAll j (s, 0)).1) ∧ ((sAll j (s, 0)).2.2 ≠ 0 → rdAll m s [] = ([], (sAll j (s, 0)).2.2))
  | 0, _ => ⟨fun _ => rfl, fun h => absurd rfl h⟩
  | j + 1, hj => by
    obtain ⟨i1, i2⟩ := sAll_rd s m j (by omega)
    have e2 : (sAll (j + 1) (s, 0)).2 = (sNode (sAll j (s, 0)).2).2 := rfl
    have e1 : (sAll (j + 1) (s, 0)).1 = (sAll j (s, 0)).1 ++ [(sNode (sAll j (s, 0)).2).1] := rfl
    rw [e2, e1]
    generalize sAll j (s, 0) = A at *
    obtain ⟨L, r, e⟩ := A
    simp only at i1 i2 ⊢
    by_cases he : e ≠ 0
    · rw [sNode_stay (x := (r, e)) he]
      exact ⟨fun h => absurd h he, fun _ => i2 he⟩
    obtain rfl := Decidable.not_not.mp he
    rw [i1 rfl, show m - j = (m - (j + 1)) + 1 from by omega, rdAll]
    obtain ⟨n1, n2⟩ := sNode_rd r
    by_cases h1 : (rdOne r).2.2 = 0
    · rw [n1 h1]
      simp only
      rw [if_neg (fun k => k h1)]
      exact ⟨fun _ => rfl, fun h => absurd rfl h⟩
    · rw [n2 h1]
      exact ⟨fun h => absurd h h1, fun _ => by rw [if_pos h1]⟩

/-- what Read says, by such a reader -/
theorem read_st {s : Bs} (h : ¬ 4096 < s.length) {L : List Nd} {r : Bs} {e : Int} (hA : sAll (sNum 64 (s, 0)).1 (sNum 64 (s, 0)).2 = (L, (r, e))) :
    read s = if e ≠ 0 then ([], e) else if r ≠ [] then ([], 4) else if check L ≠ 0 then ([], check L) else (L, 0) := by
  unfold read
  rw [if_neg h]
  rcases hg : num 64 s with ⟨n, k, eg⟩
  simp only
  by_cases hq : eg ≠ 0
  · rw [if_pos hq]
    have z := sNum_err hg hq
    have y := sAll_stay (x := (sNum 64 (s, 0)).2) (by rw [z]; exact hq) (sNum 64 (s, 0)).1
    rw [hA, z] at y
    obtain rfl : e = eg := congrArg (fun q => q.2) y
    rw [if_pos hq]
  · rw [if_neg hq]
    obtain rfl := Decidable.not_not.mp hq
    rw [sNum_ok hg] at hA
    obtain ⟨a1, a2⟩ := sAll_rd k n n (Nat.le_refl _)
    simp only at hA
    rw [hA] at a1 a2
    simp only at a1 a2
    by_cases he : e ≠ 0
    · rw [if_pos he, a2 he]
    · rw [if_neg he, a1 (Decidable.not_not.mp he), Nat.sub_self, rdAll]

/-! bounds -/
theorem tk_len (k : Nat) (e : Int) (x : St) : (tk k e x).2.1.length ≤ x.1.length := by
  unfold tk; split
  · exact Nat.le_refl _
  · split
    · exact Nat.le_refl _
    · simp

theorem tk_true {k : Nat} {e : Int} {x : St} (h : (tk k e x).1 = true) : x.2 = 0 ∧ e = 0 := by
  unfold tk at h
  split at h
  · cases h
  · rename_i q
    split at h
    · cases h
    · rename_i q2
      exact ⟨Decidable.not_not.mp q, Decidable.not_not.mp q2⟩

theorem sNum_most (m : Nat) (x : St) : (sNum m x).1 ≤ m := by
  unfold sNum
  simp only
  split
  · rename_i h
    have := (tk_true h).2
    unfold nuE at this
    split at this
    · cases this
    · rename_i q
      by_cases h2 : m < (Nm.getN x.1).1
      · exact absurd ⟨this, h2⟩ q
      · omega
  · exact Nat.zero_le _

theorem sNum_len (m : Nat) (x : St) : (sNum m x).2.1.length ≤ x.1.length := tk_len _ _ _

theorem sInt_len (x : St) : (sInt x).2.1.length ≤ x.1.length := tk_len _ _ _

theorem sTxt_len (x : St) : (sTxt x).2.1.length ≤ x.1.length := tk_len _ _ _

theorem sByt_len (k : Nat) (x : St) : (sByt k x).2.1.length ≤ x.1.length := tk_len _ _ _

theorem sKind_len (x : St) : (sKind x).2.1.length ≤ x.1.length := tk_len _ _ _

theorem sIds_len (x : St) : ∀ j, (sIds j x).2.1.length ≤ x.1.length
  | 0 => Nat.le_refl _
  | j + 1 => Nat.le_trans (sByt_len 8 _) (sIds_len x j)

theorem sParts_len (x : St) : (sParts x).2.1.length ≤ x.1.length := Nat.le_trans (sIds_len _ _) (sNum_len _ _)

theorem sInt_bd (x : St) : -9223372036854775808 ≤ (sInt x).1 ∧ (sInt x).1 ≤ 9223372036854775807 := by
  unfold sInt
  simp only
  split
  · rename_i h
    rcases hg : Nm.getI x.1 with ⟨i, k, e⟩
    rw [hg] at h
    have he := (tk_true h).2
    simp only at he
    subst he
    obtain ⟨_, a, b, _⟩ := Nm.getI_one hg
    exact ⟨a, b⟩
  · exact ⟨by decide, by decide⟩

theorem sTxt_bd (x : St) : (sTxt x).1.length ≤ 1024 := by
  unfold sTxt
  simp only
  split
  · rename_i h
    rcases hg : Nm.getT x.1 with ⟨t, k, e⟩
    rw [hg] at h
    have he := (tk_true h).2
    simp only at he
    subst he
    exact (Nm.getT_one hg).2.1
  · simp

theorem sByt_bd (k : Nat) (x : St) : (sByt k x).1.length ≤ k := by
  unfold sByt
  simp only
  split
  · rw [List.length_take]; omega
  · simp

theorem eight_len {s : Bs} (h : s.length ≤ 8) : (eight s).length = 8 := by unfold eight; rw [List.length_append, List.length_replicate]; omega

theorem sIds_bd (x : St) : ∀ j, (sIds j x).1.length = j ∧ ∀ p ∈ (sIds j x).1, p.length = 8
  | 0 => ⟨rfl, fun p h => absurd h List.not_mem_nil⟩
  | j + 1 => by
    obtain ⟨a, b⟩ := sIds_bd x j
    refine ⟨by show ((sIds j x).1 ++ [_]).length = _; rw [List.length_append, a]; rfl, fun p hp => ?_⟩
    rcases List.mem_append.1 (show p ∈ (sIds j x).1 ++ [eight (sByt 8 (sIds j x).2).1] from hp) with h | h
    · exact b p h
    · rw [List.mem_singleton.1 h]; exact eight_len (sByt_bd _ _)

theorem sParts_bd (x : St) : (sParts x).1.length ≤ 300 ∧ ∀ p ∈ (sParts x).1, p.length = 8 := by
  obtain ⟨a, b⟩ := sIds_bd (sNum 300 x).2 (sNum 300 x).1
  exact ⟨by show (sIds _ _).1.length ≤ _; rw [a]; exact sNum_most _ _, b⟩

theorem sKind_bd (x : St) : (sKind x).1 ≤ 255 := by
  unfold sKind
  simp only
  have := ((sByt 1 x).1.headD 0).toNat_lt
  omega

theorem sNode_len (x : St) : (sNode x).2.1.length ≤ x.1.length := by
  unfold sNode
  simp only
  exact Nat.le_trans (sTxt_len _) (Nat.le_trans (sParts_len _) (Nat.le_trans (sNum_len _ _) (Nat.le_trans (sInt_len _) (Nat.le_trans (sNum_len _ _) (Nat.le_trans (sKind_len _) (sTxt_len _))))))

theorem sAll_len (x : St) : ∀ j, (sAll j x).2.1.length ≤ x.1.length ∧ (sAll j x).1.length = j
  | 0 => ⟨Nat.le_refl _, rfl⟩
  | j + 1 => by
    obtain ⟨a, b⟩ := sAll_len x j
    refine ⟨Nat.le_trans (sNode_len _) a, ?_⟩
    show ((sAll j x).1 ++ [_]).length = _
    rw [List.length_append, b]
    rfl

end Td

end Go.Proofs.YtimdioacmojkeabGreatDoor

namespace Go.Proofs.YtimdioacmojkeabGreatDoor
open Go.RowKit

/-- where the first node of that name stands, or -1 -/
def ixOf (l : List Td.Nd) (s : List UInt8) : Int := match l.findIdx? (fun n => n.name == s) with
  | none => -1
  | some k => k

theorem ixOf_le (l : List Td.Nd) (s : List UInt8) {n : Nat} (h : l.length ≤ n) : ixOf l s ≤ n := by
  unfold ixOf
  cases hk : l.findIdx? fun n => n.name == s with
  | none => show (-1 : Int) ≤ n; omega
  | some k =>
    have := (List.findIdx?_eq_some_iff_getElem.1 hk).1
    show (k : Int) ≤ n
    omega

theorem findIdx_none {l : List Td.Nd} {s : List UInt8} (h : ∀ n ∈ l, (n.name == s) = false) : ixOf l s = -1 := by
  unfold ixOf
  rw [List.findIdx?_eq_none_iff.2 h]

theorem findIdx_at {l : List Td.Nd} {s : List UInt8} {k : Nat} (hk : k < l.length) (h : ∀ j (hj : j < k), (l[j].name == s) = false) (hs : (l[k].name == s) = true) : ixOf l s = k := by
  unfold ixOf
  rw [List.findIdx?_eq_some_iff_getElem.2 ⟨hk, hs, fun j hj => by rw [h j hj]; simp⟩]
end Go.Proofs.YtimdioacmojkeabGreatDoor

namespace Go.Proofs
open Go.Shelf
def Tryz.laysValid_ren : Go.Shelf.Ren := ⟨fun | 196 => 58 | 259 => 75 | n => n, fun | 9 => 9 | 4 => 4 | 3 => 3 | 5 => 5 | 12 => 12 | 119 => 130 | 0 => 0 | 46 => 114 | 139 => 133 | 138 => 132 | 53 => 112 | n => n, fun | 3 => 0 | 4 => 1 | n => n⟩
theorem Tryz.laysValid : Go.Proofs.Lays.n196 Tryz.prog Tryz.laysValid_ren := {
  mixed := by kernel_rfl
  f196 := Tryz.func58.trans (congrArg some (by kernel_rfl))
  f259 := Tryz.func75.trans (congrArg some (by kernel_rfl))
  t0 := Tryz.underlying0
  a0 := Tryz.isAgg0
  z0 := Tryz.sizeOf0
  v0 := Tryz.zeroValue0
  t3 := Tryz.underlying3
  a3 := Tryz.isAgg3
  z3 := Tryz.sizeOf3
  v3 := Tryz.zeroValue3
  t4 := Tryz.underlying4
  a4 := Tryz.isAgg4
  z4 := Tryz.sizeOf4
  v4 := Tryz.zeroValue4
  t5 := Tryz.underlying5
  a5 := Tryz.isAgg5
  z5 := Tryz.sizeOf5
  v5 := Tryz.zeroValue5
  t9 := Tryz.underlying9
  a9 := Tryz.isAgg9
  z9 := Tryz.sizeOf9
  v9 := Tryz.zeroValue9
  t12 := Tryz.underlying12
  a12 := Tryz.isAgg12
  z12 := Tryz.sizeOf12
  v12 := Tryz.zeroValue12
  t46 := Tryz.underlying114
  a46 := Tryz.isAgg114
  z46 := Tryz.sizeOf114
  v46 := Tryz.zeroValue114
  t53 := Tryz.underlying112
  a53 := Tryz.isAgg112
  z53 := Tryz.sizeOf112
  v53 := Tryz.zeroValue112
  t119 := Tryz.underlying130
  a119 := Tryz.isAgg130
  z119 := Tryz.sizeOf130
  t138 := Tryz.underlying132
  a138 := Tryz.isAgg132
  z138 := Tryz.sizeOf132
  v138 := Tryz.zeroValue132
  t139 := Tryz.underlying133
  a139 := Tryz.isAgg133
  z139 := Tryz.sizeOf133
  v139 := Tryz.zeroValue133
  g3 := by kernel_rfl
  g4 := by kernel_rfl }
end Go.Proofs

namespace Go.Proofs.YtimdioacmojkeabGreatDoor
open Go.RowKit

theorem valid_any (s : ByteArray) (w : World) (hs : s.size ≤ 9223372036854775807) (hT : Tabs w) :
    Calls Tryz.prog 58 #[.string s] w fun e w' => e = .returned (.bool (Lib.validD s.data.toList)) ∧ Below w.heap.size w w' :=
  Any.utf8_ValidString Tryz.laysValid s w hs hT
theorem check_any (s : ByteArray) (w : World) (hs : s.size ≤ 9223372036854775807) (hT : Tabs w) :
    Calls Tryz.prog 38 #[.string s] w fun e w' => e = .returned (.int .i64 (Nn.nm s.data.toList)) ∧ Below w.heap.size w w' :=
  check_of s w hs (valid_any s w hs hT)
end Go.Proofs.YtimdioacmojkeabGreatDoor

namespace Go.Proofs.YtimdioacmojkeabGreatDoor
open Go.RowKit
set_option maxRecDepth 4000

/-- a node that is not as its kind asks -/
def Td.Bad (n : Td.Nd) : Prop := (n.kind = 1 ∧ n.link ≠ []) ∨ (1 < n.kind ∧ n.size ≠ 0) ∨ (n.kind = 2 ∧ (n.parts.length ≠ 1 ∨ n.link ≠ [])) ∨ (n.kind = 3 ∧ (n.parts.length ≠ 0 ∨ n.link = []))

theorem upto_any (n m : Int) (b : Bool) (w : World) (hb : decide (0 ≤ n ∧ n ≤ m) = b) : Calls Tryz.prog 83 #[.int .i64 n, .int .i64 m] w fun e w' => e = .returned (.bool b) ∧ w' = w := by
  by_cases h0 : 0 ≤ n
  · by_cases h1 : n ≤ m
    · obtain rfl : b = true := by rw [← hb]; exact decide_eq_true ⟨h0, h1⟩
      clear hb
      go_enter Tryz.func83, Tryz.ntmps83
      go_wp2_with fail
      go_ret
      exact ⟨rfl, rfl⟩
    · obtain rfl : b = false := by rw [← hb]; exact decide_eq_false (fun q => h1 q.2)
      clear hb
      go_enter Tryz.func83, Tryz.ntmps83
      go_wp2_with fail
      go_ret
      exact ⟨rfl, rfl⟩
  · obtain rfl : b = false := by rw [← hb]; exact decide_eq_false (fun q => h0 q.1)
    clear hb
    go_enter Tryz.func83, Tryz.ntmps83
    go_wp2_with fail
    go_ret
    exact ⟨rfl, rfl⟩

theorem iskind_any (n : Int) (b : Bool) (w : World) (hb : decide (1 ≤ n ∧ n ≤ 3) = b) : Calls Tryz.prog 84 #[.int .i64 n] w fun e w' => e = .returned (.bool b) ∧ w' = w := by
  subst hb
  by_cases h1 : n = 1
  · subst h1
    go_enter Tryz.func84, Tryz.ntmps84
    go_wp2_with fail
    go_ret
    exact ⟨by simp, rfl⟩
  by_cases h2 : n = 2
  · subst h2
    go_enter Tryz.func84, Tryz.ntmps84
    go_wp2_with fail
    go_ret
    exact ⟨by simp, rfl⟩
  by_cases h3 : n = 3
  · subst h3
    go_enter Tryz.func84, Tryz.ntmps84
    go_wp2_with fail
    go_ret
    exact ⟨by simp, rfl⟩
  have q1 : (n == 1) = false := beq_eq_false_iff_ne.2 h1
  have q2 : (n == 2) = false := beq_eq_false_iff_ne.2 h2
  have q3 : (n == 3) = false := beq_eq_false_iff_ne.2 h3
  have hr : decide (1 ≤ n ∧ n ≤ 3) = false := decide_eq_false (by omega)
  rw [hr]
  clear hr h1 h2 h3
  go_enter Tryz.func84, Tryz.ntmps84
  go_wp2_with fail
  go_ret
  exact ⟨by simp, rfl⟩

set_option maxHeartbeats 2000000 in
set_option maxRecDepth 10000 in
theorem asks_any (n : Nod) (a : Option Addr) (c : Nat) (b : Bool) (w : World) (hk : n.kind = 1 ∨ n.kind = 2 ∨ n.kind = 3) (hb : b = true ↔ ¬ Td.Bad n.nd) :
    Calls Tryz.prog 85 #[ndV n (.slice a n.parts.length c)] w fun e w' => e = .returned (.bool b) ∧ Below w.heap.size w w' := by
  unfold Td.Bad at hb
  have HBd : Hid (b = true ↔ ¬ ((n.kind = 1 ∧ n.link.data.toList ≠ []) ∨ (1 < n.kind ∧ n.size ≠ 0) ∨ (n.kind = 2 ∧ (n.parts.length ≠ 1 ∨ n.link.data.toList ≠ [])) ∨ (n.kind = 3 ∧ (n.parts.length ≠ 0 ∨ n.link.data.toList = [])))) := hb
  have HF : ∀ {P : Prop}, (b = true ↔ ¬ P) → P → b = false := fun h p => by cases b with | false => rfl | true => exact absurd p (h.1 rfl)
  obtain ⟨W1, hW1⟩ : ∃ W1, W1 = w.alloc (.cells (ndC n (.slice a n.parts.length c)).toArray 80) := ⟨_, rfl⟩
  have HB : Hid (Below w.heap.size w W1) := by rw [hW1]; exact (Below.refl _ w).alloc (Nat.le_refl _) _
  have HM1 : Hid (W1.heap[w.heap.size]? = some (.cells (ndC n (.slice a n.parts.length c)).toArray 80 (0, 0))) := by rw [hW1]; exact heap_alloc_new w _
  clear hb
  generalize n.parts.length = P at *
  obtain ⟨name, kind, mode, time, size, parts, link⟩ := n
  dsimp only at *
  go_enter Tryz.func85, Tryz.ntmps85
  go_upto_region 1 with fail
  rw [← hW1]
  obtain ⟨m0, m1, m2, m3, m4, m5, m6⟩ := seven_at HM1.out
  clear hW1 HM1 m0 m2 m3
  obtain ⟨bk, hbk⟩ : ∃ bk, bk = w.heap.size := ⟨_, rfl⟩
  rw [← hbk] at m1 m4 m5 m6 ⊢
  clear hbk
  obtain rfl | rfl | rfl : kind = 1 ∨ kind = 2 ∨ kind = 3 := by omega
  · by_cases hl : link.data.toList = []
    · obtain rfl := of_data hl
      have HR : Hid (b = true) := HBd.out.2 (by simp)
      clear HBd HF
      go_wp2_with fail
      go_ret
      exact ⟨by rw [HR.out]; rfl, HB.out⟩
    · have e1 : (link.toList == []) = false := data_ne hl
      have HR : Hid (b = false) := HF HBd.out (.inl ⟨rfl, hl⟩)
      clear HBd HF
      go_wp2_with fail
      go_ret
      exact ⟨by rw [HR.out]; rfl, HB.out⟩
  · by_cases hz : size = 0
    · subst hz
      by_cases hp : P = 1
      · subst hp
        by_cases hl : link.data.toList = []
        · obtain rfl := of_data hl
          have HR : Hid (b = true) := HBd.out.2 (by simp)
          clear HBd HF
          go_wp2_with fail
          go_ret
          exact ⟨by rw [HR.out]; rfl, HB.out⟩
        · have e1 : (link.toList == []) = false := data_ne hl
          have HR : Hid (b = false) := HF HBd.out (.inr (.inr (.inl ⟨rfl, .inr hl⟩)))
          clear HBd HF
          go_wp2_with fail
          go_ret
          exact ⟨by rw [HR.out]; rfl, HB.out⟩
      · have gp : ((P : Int) == 1) = false := by rw [beq_eq_false_iff_ne]; omega
        have HR : Hid (b = false) := HF HBd.out (.inr (.inr (.inl ⟨rfl, .inl hp⟩)))
        clear HBd HF hp
        go_wp2_with fail
        go_ret
        exact ⟨by rw [HR.out]; rfl, HB.out⟩
    · have gz : (size == 0) = false := by rw [beq_eq_false_iff_ne]; exact hz
      have HR : Hid (b = false) := HF HBd.out (.inr (.inl ⟨by omega, hz⟩))
      clear HBd HF hz
      go_wp2_with fail
      go_ret
      exact ⟨by rw [HR.out]; rfl, HB.out⟩
  · by_cases hz : size = 0
    · subst hz
      by_cases hp : P = 0
      · subst hp
        by_cases hl : link.data.toList = []
        · obtain rfl := of_data hl
          have HR : Hid (b = false) := HF HBd.out (.inr (.inr (.inr ⟨rfl, .inr hl⟩)))
          clear HBd HF
          go_wp2_with fail
          go_ret
          exact ⟨by rw [HR.out]; rfl, HB.out⟩
        · have e1 : (link.toList == []) = false := data_ne hl
          have HR : Hid (b = true) := HBd.out.2 (by simp [hl])
          clear HBd HF
          go_wp2_with fail
          go_ret
          exact ⟨by rw [HR.out]; rfl, HB.out⟩
      · have gp : ((P : Int) == 0) = false := by rw [beq_eq_false_iff_ne]; omega
        have HR : Hid (b = false) := HF HBd.out (.inr (.inr (.inr ⟨rfl, .inl hp⟩)))
        clear HBd HF hp
        go_wp2_with fail
        go_ret
        exact ⟨by rw [HR.out]; rfl, HB.out⟩
    · have gz : (size == 0) = false := by rw [beq_eq_false_iff_ne]; exact hz
      have HR : Hid (b = false) := HF HBd.out (.inr (.inl ⟨by omega, hz⟩))
      clear HBd HF hz
      go_wp2_with fail
      go_ret
      exact ⟨by rw [HR.out]; rfl, HB.out⟩

set_option maxHeartbeats 2000000 in
set_option maxRecDepth 10000 in
theorem cnode_any (n : Nod) (a : Option Addr) (c : Nat) (w : World) (hn : n.name.size ≤ 9223372036854775807) (hl : n.link.size ≤ 9223372036854775807) (hT : Tabs w) :
    Calls Tryz.prog 67 #[ndV n (.slice a n.parts.length c)] w fun e w' => e = .returned (.int .i64 (Td.nErr n.nd)) ∧ Below w.heap.size w w' := by
  have HT : Hid (Td.nErr n.nd = if Nn.nm n.name.data.toList ≠ 0 then Nn.nm n.name.data.toList
    else if n.mode < 0 ∨ 511 < n.mode ∨ n.size < 0 ∨ 4096 < n.size ∨ 300 < n.parts.length then 1
    else if n.kind < 1 ∨ 3 < n.kind then 5
    else if (n.kind = 1 ∧ n.link.data.toList ≠ []) ∨ (1 < n.kind ∧ n.size ≠ 0) ∨ (n.kind = 2 ∧ (n.parts.length ≠ 1 ∨ n.link.data.toList ≠ [])) ∨ (n.kind = 3 ∧ (n.parts.length ≠ 0 ∨ n.link.data.toList = [])) then 4
    else if 1024 < n.link.data.toList.length then 2 else 0) := rfl
  obtain ⟨W1, hW1⟩ : ∃ W1, W1 = w.alloc (.cells (ndC n (.slice a n.parts.length c)).toArray 80) := ⟨_, rfl⟩
  have HB1 : Hid (Below w.heap.size w W1) := by rw [hW1]; exact (Below.refl _ w).alloc (Nat.le_refl _) _
  have HM1 : Hid (W1.heap[w.heap.size]? = some (.cells (ndC n (.slice a n.parts.length c)).toArray 80 (0, 0))) := by rw [hW1]; exact heap_alloc_new w _
  have hr := check_any n.name W1 hn (hT.below HB1.out)
  have HAs : Hid (∀ b W, (n.kind = 1 ∨ n.kind = 2 ∨ n.kind = 3) → (b = true ↔ ¬ Td.Bad n.nd) → Calls Tryz.prog 85 #[ndV n (.slice a n.parts.length c)] W fun e w' => e = .returned (.bool b) ∧ Below W.heap.size W w') := fun b W => asks_any n a c b W
  have HBd : Hid (Td.Bad n.nd ↔ ((n.kind = 1 ∧ n.link.data.toList ≠ []) ∨ (1 < n.kind ∧ n.size ≠ 0) ∨ (n.kind = 2 ∧ (n.parts.length ≠ 1 ∨ n.link.data.toList ≠ [])) ∨ (n.kind = 3 ∧ (n.parts.length ≠ 0 ∨ n.link.data.toList = [])))) := Iff.rfl
  generalize Td.nErr n.nd = R at *
  generalize Td.Bad n.nd = BAD at *
  generalize Nn.nm n.name.data.toList = E at *
  generalize n.parts.length = P at *
  obtain ⟨name, kind, mode, time, size, parts, link⟩ := n
  dsimp only at *
  clear hT
  go_enter Tryz.func67, Tryz.ntmps67
  go_upto_region 1 with fail
  rw [← hW1]
  obtain ⟨m0, _⟩ := seven_at HM1.out
  clear hW1
  go_wp2_with fail
  refine hr.mono ?_
  rintro e w2 ⟨rfl, b2⟩
  have HB : Hid (Below w.heap.size w w2) := HB1.out.trans (b2.mono HB1.out.size)
  obtain ⟨m0, m1, m2, m3, m4, m5, m6⟩ := seven_at ((b2.block _ (Array.getElem?_eq_some_iff.1 HM1.out).1).trans HM1.out)
  have HM2 : Hid (w2.heap[w.heap.size]? = some (.cells #[.string name, .int .i64 kind, .int .i64 mode, .int .i64 time, .int .i64 size, .slice a P c, .string link] 80 (0, 0))) := (b2.block _ (Array.getElem?_eq_some_iff.1 HM1.out).1).trans HM1.out
  clear HB1 HM1 hr b2 hn
  obtain ⟨bk, hbk⟩ : ∃ bk, bk = w.heap.size := ⟨_, rfl⟩
  rw [← hbk] at HM2 m0 m1 m2 m3 m4 m5 m6 ⊢
  clear hbk
  by_cases hE : ¬ E = 0
  · have hqn : (E != 0) = true := by rw [bne_iff_ne]; exact hE
    have HR : Hid (R = E) := by
      have := HT.out
      rwa [if_pos hE] at this
    clear HT HAs HBd
    go_wp2_with fail
    go_ret
    exact ⟨by rw [HR.out]; rfl, HB.out⟩
  obtain rfl := Decidable.not_not.mp hE
  clear hE
  rw [if_neg (by simp)] at HT
  by_cases h1 : ¬ (0 ≤ mode ∧ mode ≤ 511)
  · have HR : Hid (R = 1) := by
      have := HT.out
      rwa [if_pos (by omega)] at this
    have k1 : decide (0 ≤ mode ∧ mode ≤ 511) = false := decide_eq_false h1
    clear HT HAs HBd h1
    go_wp2_with (go_at_call 83; refine (upto_any mode 511 false _ k1).mono ?_; rintro e w3 ⟨rfl, rfl⟩)
    go_ret
    exact ⟨by rw [HR.out]; rfl, HB.out⟩
  replace h1 := Decidable.not_not.mp h1
  have k1 : decide (0 ≤ mode ∧ mode ≤ 511) = true := decide_eq_true h1
  by_cases h2 : ¬ (0 ≤ size ∧ size ≤ 4096)
  · have HR : Hid (R = 1) := by
      have := HT.out
      rwa [if_pos (by omega)] at this
    have k2 : decide (0 ≤ size ∧ size ≤ 4096) = false := decide_eq_false h2
    clear HT HAs HBd h1 h2
    go_wp2_with (first | (go_at_call 83; with_reducible refine (upto_any mode 511 true _ k1).mono ?_; rintro e w3 ⟨rfl, hw⟩; obtain rfl := hw.symm) | (go_at_call 83; with_reducible refine (upto_any size 4096 false _ k2).mono ?_; rintro e w3 ⟨rfl, hw⟩; obtain rfl := hw.symm))
    go_ret
    exact ⟨by rw [HR.out]; rfl, HB.out⟩
  replace h2 := Decidable.not_not.mp h2
  have k2 : decide (0 ≤ size ∧ size ≤ 4096) = true := decide_eq_true h2
  by_cases h5 : 300 < P
  · have g5 : (300 : Int) < (P : Int) := by omega
    have HR : Hid (R = 1) := by
      have := HT.out
      rwa [if_pos (by omega)] at this
    clear HT HAs HBd h1 h2
    go_wp2_with (first | (go_at_call 83; with_reducible refine (upto_any mode 511 true _ k1).mono ?_; rintro e w3 ⟨rfl, hw⟩; obtain rfl := hw.symm) | (go_at_call 83; with_reducible refine (upto_any size 4096 true _ k2).mono ?_; rintro e w3 ⟨rfl, hw⟩; obtain rfl := hw.symm))
    go_ret
    exact ⟨by rw [HR.out]; rfl, HB.out⟩
  have g5 : ¬ (300 : Int) < (P : Int) := by omega
  rw [if_neg (by omega)] at HT
  by_cases h3 : ¬ (1 ≤ kind ∧ kind ≤ 3)
  · have HR : Hid (R = 5) := by
      have := HT.out
      rwa [if_pos (by omega)] at this
    have k3 : decide (1 ≤ kind ∧ kind ≤ 3) = false := decide_eq_false h3
    clear HT HAs HBd h1 h2 h3
    go_wp2_with (first | (go_at_call 83; with_reducible refine (upto_any mode 511 true _ k1).mono ?_; rintro e w3 ⟨rfl, hw⟩; obtain rfl := hw.symm) | (go_at_call 83; with_reducible refine (upto_any size 4096 true _ k2).mono ?_; rintro e w3 ⟨rfl, hw⟩; obtain rfl := hw.symm) | (go_at_call 84; refine (iskind_any kind false _ k3).mono ?_; rintro e w3 ⟨rfl, hw⟩; obtain rfl := hw.symm))
    go_ret
    exact ⟨by rw [HR.out]; rfl, HB.out⟩
  replace h3 := Decidable.not_not.mp h3
  have k3 : decide (1 ≤ kind ∧ kind ≤ 3) = true := decide_eq_true h3
  rw [if_neg (by omega)] at HT
  have hk : kind = 1 ∨ kind = 2 ∨ kind = 3 := by omega
  by_cases hb : BAD
  · have HR : Hid (R = 4) := by
      have := HT.out
      rwa [if_pos (HBd.out.1 hb)] at this
    have has := HAs.out false w2 hk (by simp [hb])
    clear HT HAs HBd h1 h2 h3 hk
    go_wp2_with (first | (go_at_call 83; with_reducible refine (upto_any mode 511 true _ k1).mono ?_; rintro e w3 ⟨rfl, hw⟩; obtain rfl := hw.symm) | (go_at_call 83; with_reducible refine (upto_any size 4096 true _ k2).mono ?_; rintro e w3 ⟨rfl, hw⟩; obtain rfl := hw.symm) | (go_at_call 84; refine (iskind_any kind true _ k3).mono ?_; rintro e w3 ⟨rfl, hw⟩; obtain rfl := hw.symm))
    refine has.mono ?_
    rintro e w4 ⟨rfl, b4⟩
    have HB4 : Hid (Below w.heap.size w w4) := HB.out.trans (b4.mono HB.out.size)
    clear has b4
    go_wp2_with fail
    go_ret
    exact ⟨by rw [HR.out]; rfl, HB4.out⟩
  · have HR : Hid (R = if 1024 < link.size then 2 else 0) := by
      have := HT.out
      rwa [if_neg (fun q => hb (HBd.out.2 q)), ← Lib.size_eq] at this
    have has := HAs.out true w2 hk (by simp [hb])
    clear HT HAs HBd h1 h2 h3 hk
    go_wp2_with (first | (go_at_call 83; with_reducible refine (upto_any mode 511 true _ k1).mono ?_; rintro e w3 ⟨rfl, hw⟩; obtain rfl := hw.symm) | (go_at_call 83; with_reducible refine (upto_any size 4096 true _ k2).mono ?_; rintro e w3 ⟨rfl, hw⟩; obtain rfl := hw.symm) | (go_at_call 84; refine (iskind_any kind true _ k3).mono ?_; rintro e w3 ⟨rfl, hw⟩; obtain rfl := hw.symm))
    refine has.mono ?_
    rintro e w4 ⟨rfl, b4⟩
    have HB4 : Hid (Below w.heap.size w w4) := HB.out.trans (b4.mono HB.out.size)
    obtain ⟨_, _, _, _, _, _, n6⟩ := seven_at ((b4.block _ (Array.getElem?_eq_some_iff.1 HM2.out).1).trans HM2.out)
    clear has b4 m0 m1 m2 m3 m4 m5 m6 HM2
    by_cases hL : 1024 < link.size
    · have gL : (1024 : Int) < (link.size : Int) := by omega
      rw [if_pos hL] at HR
      go_wp2_with fail
      go_ret
      exact ⟨by rw [HR.out]; rfl, HB4.out⟩
    · have gL : ¬ (1024 : Int) < (link.size : Int) := by omega
      rw [if_neg hL] at HR
      go_wp2_with fail
      go_ret
      exact ⟨by rw [HR.out]; rfl, HB4.out⟩

theorem tg_irr : ∀ x : List UInt8, Op.bytesLess x x = false
  | [] => rfl
  | a :: x => by rw [Op.bytesLess, tg_irr x]; simp

theorem tg_tri : ∀ x y : List UInt8, Op.bytesLess x y = true → Op.bytesLess y x = false
  | [], [], _ => rfl
  | [], _ :: _, _ => rfl
  | _ :: _, [], h => by cases h
  | a :: x, b :: y, h => by
    rw [Op.bytesLess, Bool.or_eq_true, Bool.and_eq_true] at h
    rw [Op.bytesLess]
    rcases h with h | ⟨h1, h2⟩
    · have q : a < b := of_decide_eq_true h
      have q1 : a.toNat < b.toNat := q
      have q2 : ¬ b < a := fun k => by have k1 : b.toNat < a.toNat := k; omega
      have q3 : (b == a) = false := beq_eq_false_iff_ne.2 fun k => by rw [k] at q1; omega
      rw [q3, decide_eq_false q2]
      rfl
    · obtain rfl : a = b := eq_of_beq h1
      rw [tg_tri x y h2]
      simp

theorem tg_less {s t : ByteArray} (h : Op.bytesLess t.toList s.toList = true) : Op.bytesLess s.toList t.toList = false ∧ (s.toList == t.toList) = false :=
  ⟨tg_tri _ _ h, beq_eq_false_iff_ne.2 fun e => by rw [e, tg_irr] at h; cases h⟩

theorem tg_tot : ∀ x y : List UInt8, Op.bytesLess y x = false → x = y ∨ Op.bytesLess x y = true
  | [], [], _ => .inl rfl
  | [], _ :: _, _ => .inr rfl
  | _ :: _, [], h => by cases h
  | a :: x, b :: y, h => by
    rw [Op.bytesLess, Bool.or_eq_false_iff, Bool.and_eq_false_iff] at h
    rw [Op.bytesLess]
    have q : ¬ b < a := of_decide_eq_false h.1
    by_cases e : a = b
    · subst e
      rcases h.2 with k | k
      · simp at k
      · rcases tg_tot x y k with e | e
        · exact .inl (by rw [e])
        · exact .inr (by rw [e]; simp)
    · refine .inr ?_
      have q1 : ¬ b.toNat < a.toNat := q
      have q2 : a.toNat ≠ b.toNat := fun k => e (UInt8.toNat_inj.1 k)
      have q3 : a < b := show a.toNat < b.toNat by omega
      rw [decide_eq_true q3]
      rfl

theorem tg_more {s t : ByteArray} (h : Op.bytesLess t.toList s.toList = false) : Op.bytesLess s.toList t.toList = true ∨ (Op.bytesLess s.toList t.toList = false ∧ (s.toList == t.toList) = true) := by
  rcases tg_tot _ _ h with e | e
  · exact .inr ⟨by rw [e, tg_irr], by rw [e]; simp⟩
  · exact .inl e

set_option maxHeartbeats 2000000 in
set_option maxRecDepth 10000 in
theorem tcheck_any (v : Value) (l : List Nod) (w : World) (h : Nds w v l) (hl : l.length ≤ 9223372036854775807) (hT : Tabs w) :
    Calls Tryz.prog 52 #[v] w fun e w' => e = .returned (.int .i64 (Td.check (nds l))) ∧ Below w.heap.size w w' := by
  obtain ⟨a, c, rfl⟩ := h.slice
  have HX : Hid (Nds w (.slice a l.length c) l) := h
  have HS0 : Hid (Tabs w) := hT
  have HT : Hid (Td.check (nds l) = if 64 < l.length then 2 else Td.ckB none (nds l)) := by show _ = _; rw [← nds_length l]; rfl
  generalize Td.check (nds l) = R at *
  obtain ⟨N, hN⟩ : ∃ N, N = l.length := ⟨_, rfl⟩
  have HN : Hid (N = l.length) := hN
  rw [← hN] at HX HT hl ⊢
  clear h hT hN
  by_cases h64 : 64 < N
  · have HR : Hid (R = 2) := by
      have := HT.out
      rwa [if_pos h64] at this
    have g : (64 : Int) < (N : Int) := by omega
    clear HT
    go_enter Tryz.func52, Tryz.ntmps52
    go_wp2_with fail
    go_ret
    exact ⟨by rw [HR.out]; rfl, Below.refl _ _⟩
  have HC : Hid (Td.ckB (prv l 0) (nds (l.drop 0)) = R) := by
    have := HT.out
    rw [if_neg h64] at this
    exact this.symm
  have g : ¬ (64 : Int) < (N : Int) := by omega
  clear HT
  go_enter Tryz.func52, Tryz.ntmps52
  go_wp2_with fail
  go_loopw [11] (fun x wr => ∃ k : Nat, k ≤ N ∧ x = .int .i64 k ∧ Hid (Td.ckB (prv l k) (nds (l.drop k)) = R) ∧ Hid (Below w.heap.size w wr)) (fun x _ => N - (intOf x).toNat)
  case atStart => exact ⟨0, by omega, rfl, HC, Below.refl _ _⟩
  case round =>
    clear HC
    obtain ⟨k, hk, rfl, HC, HB⟩ := hrel
    by_cases hlt : k < N
    · have hkl : k < l.length := by rw [← HN.out]; exact hlt
      obtain ⟨bk, o, cs, rfl, hbk, hcl, ⟨v, rfl, hPs, hok⟩, hcell⟩ := (HX.out.below HB.out).get k l[k] (List.getElem?_eq_getElem hkl)
      have hSt := HC.out
      rw [nds_drop l k hkl, Td.ckB_cons] at hSt
      have HSt : Hid ((if Td.nErr l[k].nd ≠ 0 then Td.nErr l[k].nd else if Td.low (prv l k) l[k].name.data.toList = true then 4 else Td.ckB (some l[k].name.data.toList) (nds (l.drop (k + 1)))) = R) := hSt
      have HP1 : Hid (prv l (k + 1) = some l[k].name.data.toList) := by show _ = _; rw [prv, List.getElem?_eq_getElem hkl]; rfl
      have HPk : Hid (∀ j, k = j + 1 → ∃ t : ByteArray, prv l k = some t.data.toList ∧ wr.cell? ⟨bk, o + j * 7, none⟩ = some (.string t)) := fun j hj => by
        subst hj
        obtain ⟨bk', o', cs', e', _, _, ⟨v', rfl, _⟩, hc'⟩ := (HX.out.below HB.out).get j l[j] (List.getElem?_eq_getElem (by omega))
        cases e'
        exact ⟨l[j].name, by rw [prv, List.getElem?_eq_getElem (by omega)]; rfl, hc' 0 _ rfl⟩
      obtain ⟨av, cv, rfl, _⟩ := hPs.slice
      obtain ⟨W1, hW1⟩ : ∃ W1, W1 = wr.alloc (.cells (ndC l[k] (.slice av l[k].parts.length cv)).toArray 80) := ⟨_, rfl⟩
      have hB1 : Below wr.heap.size wr W1 := by rw [hW1]; exact (Below.refl _ wr).alloc (Nat.le_refl _) _
      have HB1 : Hid (Below w.heap.size w W1) := HB.out.trans (hB1.mono HB.out.size)
      have HM1 : Hid (W1.heap[wr.heap.size]? = some (.cells (ndC l[k] (.slice av l[k].parts.length cv)).toArray 80 (0, 0))) := by rw [hW1]; exact heap_alloc_new wr _
      have hne := cnode_any l[k] av cv W1 hok.name hok.link (HS0.out.below HB1.out)
      have c0 : wr.cell? ⟨bk, o + k * 7, none⟩ = some (.string l[k].name) := hcell 0 _ rfl
      have c1 := hcell 1 _ rfl
      have c2 := hcell 2 _ rfl
      have c3 := hcell 3 _ rfl
      have c4 := hcell 4 _ rfl
      have c5 := hcell 5 _ rfl
      have c6 := hcell 6 _ rfl
      generalize Td.nErr l[k].nd = E at *
      generalize l[k] = n at *
      generalize n.parts.length = np at *
      clear hcell hPs hok hcl HC hSt
      obtain ⟨name, kind, mode, time, size, parts, link⟩ := n
      dsimp only at *
      go_upto_region 6 with fail
      rw [← hW1]
      obtain ⟨b7, hb7⟩ : ∃ b7, b7 = wr.heap.size := ⟨_, rfl⟩
      rw [← hb7] at HM1 ⊢
      obtain ⟨m0, m1, m2, m3, m4, m5, m6⟩ := seven_at HM1.out
      clear hW1 c0 c1 c2 c3 c4 c5 c6 hb7
      go_wp2_with fail
      refine hne.mono ?_
      rintro e w3 ⟨rfl, b3⟩
      have HB3 : Hid (Below w.heap.size w w3) := HB1.out.trans (b3.mono HB1.out.size)
      have HP3 : Hid (∀ j, k = j + 1 → ∃ t : ByteArray, prv l k = some t.data.toList ∧ w3.cell? ⟨bk, o + j * 7, none⟩ = some (.string t)) := fun j hj => by
        obtain ⟨t, p1, p2⟩ := HPk.out j hj
        exact ⟨t, p1, (Below.cell (hB1.trans (b3.mono hB1.size)) (p := ⟨bk, o + j * 7, none⟩) hbk).trans p2⟩
      obtain ⟨n0, _⟩ := seven_at ((b3.block _ (Array.getElem?_eq_some_iff.1 HM1.out).1).trans HM1.out)
      clear hne b3 m0 m1 m2 m3 m4 m5 m6 HPk HM1 hB1 HB1
      by_cases hE : E = 0
      · subst hE
        rw [if_neg (by simp)] at HSt
        go_wp2_with fail
        rcases Nat.eq_zero_or_pos k with hk0 | hk0
        · have hd : decide ((0 : Int) < (k : Int)) = false := decide_eq_false (by omega)
          have HS2 : Hid (Td.ckB (prv l (k + 1)) (nds (l.drop (k + 1))) = R) := by
            have := HSt.out
            rw [hk0, prv, Td.low, if_neg (by simp)] at this
            show _ = _
            rw [HP1.out, hk0]
            exact this
          clear HSt HP3 HP1
          go_quiet (fail)
          go_wp2_with fail
          go_roundw
          case measure => simp only [intOf]; omega
          case rel => exact ⟨k + 1, by omega, by go_num, HS2, below_drewN HB3.out _⟩
        · obtain ⟨j, rfl⟩ : ∃ j, k = j + 1 := ⟨k - 1, by omega⟩
          obtain ⟨t, p1, p2⟩ := HP3.out j rfl
          have hd : decide ((0 : Int) < ((j + 1 : Nat) : Int)) = true := decide_eq_true (by omega)
          have hj : j < N := by omega
          have HL : Hid ((if (!Op.bytesLess t.data.toList name.data.toList) = true then 4 else Td.ckB (prv l (j + 1 + 1)) (nds (l.drop (j + 1 + 1)))) = R) := by
            have := HSt.out
            rw [p1, Td.low] at this
            rw [HP1.out]
            exact this
          clear HSt HP3 HP1 p1
          rw [← Lib.toList_data, ← Lib.toList_data] at HL
          cases hbl : Op.bytesLess t.toList name.toList with
          | true =>
            obtain ⟨x1, x2⟩ := tg_less hbl
            have HS2 : Hid (Td.ckB (prv l (j + 1 + 1)) (nds (l.drop (j + 1 + 1))) = R) := by
              have := HL.out
              rwa [hbl, if_neg (by simp)] at this
            clear HL hbl
            go_quiet (fail)
            go_wp2_with fail
            go_roundw
            case measure => simp only [intOf]; omega
            case rel => exact ⟨j + 1 + 1, by omega, by go_num, HS2, below_drewN HB3.out _⟩
          | false =>
            have HR : Hid (R = 4) := by
              have := HL.out
              rw [hbl, if_pos (by rfl)] at this
              exact this.symm
            have hz := tg_more hbl
            clear HL hbl
            rcases hz with hz | ⟨x1, x2⟩
            · go_quiet (fail)
              go_wp2_with fail
              go_ret
              exact ⟨by rw [HR.out]; rfl, below_drewN HB3.out _⟩
            · go_quiet (fail)
              go_wp2_with fail
              go_ret
              exact ⟨by rw [HR.out]; rfl, below_drewN HB3.out _⟩
      · have hqn : (E != 0) = true := by rw [bne_iff_ne]; exact hE
        have HR : Hid (R = E) := by
          have := HSt.out
          rw [if_pos hE] at this
          exact this.symm
        clear HSt
        go_wp2_with fail
        go_ret
        exact ⟨by rw [HR.out]; rfl, HB3.out⟩
    · obtain rfl : k = N := by omega
      have HE : Hid (0 = R) := by
        have := HC.out
        rwa [List.drop_eq_nil_of_le (by rw [HN.out]; exact Nat.le_refl _)] at this
      clear HC
      go_wp2_with fail
      go_ret
      exact ⟨by rw [← HE.out]; rfl, HB.out⟩

theorem find_bad {l : List Td.Nd} {s : List UInt8} (h : Td.check l ≠ 0) : Td.find l s = (0, Td.check l) := by unfold Td.find; rw [if_pos h]

theorem find_ok {l : List Td.Nd} {s : List UInt8} (h : Td.check l = 0) : (ixOf l s = -1 ∧ Td.find l s = (0, 9)) ∨ ∃ k : Nat, ixOf l s = k ∧ Td.find l s = (k, 0) := by
  unfold Td.find ixOf
  rw [if_neg (fun q => q h)]
  cases l.findIdx? fun n => n.name == s with
  | none => exact .inl ⟨rfl, rfl⟩
  | some k => exact .inr ⟨k, rfl, rfl⟩
end Go.Proofs.YtimdioacmojkeabGreatDoor

namespace Go.Proofs.YtimdioacmojkeabGreatDoor
open Go.RowKit
set_option maxRecDepth 4000

theorem or_byte (m b : Nat) (hb : b < 256) : m * 256 ||| b = m * 256 + b := by
  have := Nat.two_pow_add_eq_or_of_lt (i := 8) (b := b) hb m
  rw [Nat.mul_comm m 256]
  exact this.symm
theorem join_step (m : Nat) (b : UInt8) (t : Int) (hm : m < 72057594037927936) (h0 : 0 ≤ t) (h1 : t ≤ 255) :
    bits .or .u64 (IntKind.u64.wrap ((m : Int) * 256)) (IntKind.u64.wrap (bits .xor .u8 (b.toNat : Int) t)) = ((256 * m + (b ^^^ UInt8.ofNat t.toNat).toNat : Nat) : Int) := by
  obtain ⟨T, rfl⟩ := Int.eq_ofNat_of_zero_le h0
  have hb := b.toNat_lt
  rw [u8_xor_nat _ _ (by omega) (by omega), Int.toNat_natCast, xor_u8 _ _ (by omega)]
  have hx := (b ^^^ UInt8.ofNat T).toNat_lt
  rw [wrap_u64 _ (by omega) (by omega), wrap_u64 _ (by omega) (by omega)]
  rw [show ((m : Int) * 256) = ((m * 256 : Nat) : Int) from by omega, u64_or_nat _ _ (by omega) (by omega), or_byte _ _ (by omega)]
  omega

set_option maxHeartbeats 400000 in
theorem digits_join (s : ByteArray) (t : Int) (w : World) (hl : s.size ≤ 8) (h0 : 0 ≤ t) (h1 : t ≤ 255) :
    Calls Tryz.prog 114 #[.string s, .int .u8 t] w fun e w' => e = .returned (.int .u64 (Nm.val (Nm.tn t.toNat s.data.toList))) ∧ w' = w := by
  go_enter Tryz.func114, Tryz.ntmps114
  go_wp2
  go_loop [5, 6] (fun n i => ∃ k : Nat, k ≤ s.size ∧ i = .int .i64 k ∧ n = .int .u64 (Nm.val (Nm.tn t.toNat (s.data.toList.take k)))) (fun _ i => s.size - (intOf i).toNat)
  case atStart => exact ⟨0, Nat.zero_le _, rfl, by simp [Nm.tn, Nm.val_nil]⟩
  case round =>
    obtain ⟨k, hk, rfl, rfl⟩ := hrel
    by_cases hlt : k < s.size
    · go_wp2
      go_round
      case rel =>
        refine ⟨k + 1, by omega, by go_num, int_eq ?_⟩
        have hv := Nm.val_lt (Nm.tn t.toNat (s.data.toList.take k))
        have hle : (Nm.tn t.toNat (s.data.toList.take k)).length ≤ 7 := by rw [Nm.tn_length]; have := List.length_take_le k s.data.toList; omega
        have hp : 256 ^ (Nm.tn t.toNat (s.data.toList.take k)).length ≤ 256 ^ 7 := Nat.pow_le_pow_right (by omega) hle
        rw [take_snoc s k hlt, Nm.tn_append, Nm.tn, Nm.tn, List.map_cons, List.map_nil, Nm.val_snoc]
        exact join_step _ _ _ (by simp only [Nm.tn] at hv hp ⊢; omega) h0 h1
      case measure => simp [intOf]; omega
    · go_wp2
      go_ret
      exact ⟨ret_int (by rw [List.take_of_length_le (by simp; omega)]), rfl⟩

theorem xor_zero (s : ByteArray) (t : Int) (h : 0 < s.size) (h0 : 0 ≤ t) (h1 : t ≤ 255) : (bits BinOp.xor IntKind.u8 (s[0].toNat : Int) t == 0) = decide (s.data.toList.headD 0 ^^^ UInt8.ofNat t.toNat = 0) := by
  obtain ⟨T, rfl⟩ := Int.eq_ofNat_of_zero_le h0
  have hb := s[0].toNat_lt
  rw [u8_xor_nat _ _ (by omega) (by omega), Int.toNat_natCast, xor_u8 _ _ (by omega)]
  have e : s.data.toList.headD 0 = s[0] := head_byte s h
  rw [e, Bool.eq_iff_iff]
  simp only [beq_iff_eq, decide_eq_true_eq]
  constructor
  · intro h; exact UInt8.toNat_inj.1 (by simpa using h)
  · intro h; rw [h]; rfl

set_option maxHeartbeats 400000 in
theorem digits_read (s : ByteArray) (k t : Int) (w : World) (hs : s.size ≤ 9223372036854775807) (k0 : 0 ≤ k) (k1 : k ≤ 255) (h0 : 0 ≤ t) (h1 : t ≤ 255) :
    Calls Tryz.prog 108 #[.string s, .int .i64 k, .int .u8 t] w fun e w' =>
      e = .returned (.tuple #[.int .u64 (Nm.readN s.data.toList k.toNat t.toNat).1, .int .i64 (Nm.readN s.data.toList k.toNat t.toNat).2]) ∧ w' = w := by
  by_cases h8 : 8 < k
  · have hr : Nm.readN s.data.toList k.toNat t.toNat = (0, 4) := by rw [Nm.readN, if_pos (by omega)]
    rw [hr]
    go_enter Tryz.func108, Tryz.ntmps108
    go_wp2
    go_ret2
    exact ⟨rfl, rfl⟩
  by_cases hk : (s.size : Int) < k
  · have hr : Nm.readN s.data.toList k.toNat t.toNat = (0, 3) := by rw [Nm.readN, if_neg (by omega), if_pos (by simp; omega)]
    rw [hr]
    go_enter Tryz.func108, Tryz.ntmps108
    go_wp2
    go_ret2
    exact ⟨rfl, rfl⟩
  by_cases hz : 0 < k
  · have hp : 0 < s.size := by omega
    have hx := xor_zero s t hp h0 h1
    by_cases hd : s.data.toList.headD 0 ^^^ UInt8.ofNat t.toNat = 0
    · have hr : Nm.readN s.data.toList k.toNat t.toNat = (0, 4) := by rw [Nm.readN, if_neg (by omega), if_neg (by simp; omega), if_pos ⟨by omega, hd⟩]
      rw [hr]
      rw [decide_eq_true hd] at hx
      clear hd hr
      go_enter Tryz.func108, Tryz.ntmps108
      go_wp2
      go_ret2
      exact ⟨rfl, rfl⟩
    · have hr : Nm.readN s.data.toList k.toNat t.toNat = (Nm.val (Nm.tn t.toNat (s.data.toList.take k.toNat)), 0) := by rw [Nm.readN, if_neg (by omega), if_neg (by simp; omega), if_neg (by intro h; exact hd h.2)]
      rw [hr]
      rw [decide_eq_false hd] at hx
      clear hd hr
      go_enter Tryz.func108, Tryz.ntmps108
      go_wp2_with (go_at_call 114; refine (digits_join _ _ _ (by simp; omega) h0 h1).mono ?_; rintro e w' ⟨rfl, rfl⟩)
      go_ret2
      exact ⟨rfl, rfl⟩
  · have hr : Nm.readN s.data.toList k.toNat t.toNat = (Nm.val (Nm.tn t.toNat []), 0) := by rw [Nm.readN, if_neg (by omega), if_neg (by simp; omega), if_neg (by intro h; omega), show k.toNat = 0 from by omega, List.take_zero]
    rw [hr]
    clear hr
    go_enter Tryz.func108, Tryz.ntmps108
    go_wp2_with (go_at_call 114; refine (digits_join _ _ _ (by simp; omega) h0 h1).mono ?_; rintro e w' ⟨rfl, rfl⟩)
    go_ret2
    exact ⟨rfl, rfl⟩
end Go.Proofs.YtimdioacmojkeabGreatDoor

namespace Go.Proofs.YtimdioacmojkeabGreatDoor
open Go.RowKit
set_option maxRecDepth 4000

theorem list_ne (s : ByteArray) (h : 0 < s.size) : s.data.toList ≠ [] := by
  intro e; have := Lib.size_eq s; rw [e] at this; simp only [List.length_nil] at this; omega

theorem tail_data (s : ByteArray) : (s.extract 1 s.size).data.toList = s.data.toList.tail := by
  rw [Lib.extract_data, List.take_of_length_le, List.drop_one]
  rw [List.length_drop, ← Lib.size_eq]
  exact Nat.le_refl _

theorem read_tail (s : ByteArray) (c t : Int) (w : World) (hs : s.size ≤ 9223372036854775807) (k0 : 0 ≤ c) (k1 : c ≤ 255) (h0 : 0 ≤ t) (h1 : t ≤ 255) :
    Calls Tryz.prog 108 #[.string (s.extract 1 s.size), .int .i64 c, .int .u8 t] w fun e w' =>
      e = .returned (.tuple #[.int .u64 (Nm.readN s.data.toList.tail c.toNat t.toNat).1, .int .i64 (Nm.readN s.data.toList.tail c.toNat t.toNat).2]) ∧ w' = w := by
  have h := digits_read (s.extract 1 s.size) c t w (by simp; omega) k0 k1 h0 h1
  rw [tail_data] at h
  exact h

set_option maxHeartbeats 400000 in
theorem get_any (s : ByteArray) (w : World) (hs : s.size ≤ 9223372036854775807) :
    Calls Tryz.prog 96 #[.string s] w fun e w' =>
      e = .returned (.tuple #[.int .u64 (Nm.getN s.data.toList).1, .int .i64 (Nm.getN s.data.toList).2.1, .int .i64 (Nm.getN s.data.toList).2.2]) ∧ w' = w := by
  by_cases h0 : s.size = 0
  · have hr : Nm.getN s.data.toList = (0, 0, 3) := by rw [Nm.getN, if_pos (List.length_eq_zero_iff.1 (by simpa using h0))]
    rw [hr]
    go_enter Tryz.func96, Tryz.ntmps96
    go_wp2
    go_ret3
    exact ⟨rfl, rfl⟩
  · have hp : 0 < s.size := by omega
    have hne := list_ne s hp
    have hb := s[0].toNat_lt
    have hh := head_byte s hp
    have hz : ((s.size : Int) == 0) = false := beq_eq_false_iff_ne.2 (by omega)
    have hg : Nm.getN s.data.toList = if (Nm.readN s.data.toList.tail s[0].toNat 0).2 = 0 then ((Nm.readN s.data.toList.tail s[0].toNat 0).1, 1 + s[0].toNat, (0 : Int)) else ((0 : Nat), (0 : Nat), (Nm.readN s.data.toList.tail s[0].toNat 0).2) := by
      rw [Nm.getN, if_neg hne]; simp only [hh]
    rw [hg]
    clear hg hh hne h0
    generalize hc : s[0] = c at *
    generalize hR : Nm.readN s.data.toList.tail c.toNat 0 = r
    obtain ⟨r1, r2⟩ := r
    have HR : Hid (Nm.readN s.data.toList.tail c.toNat 0 = (r1, r2)) := hR
    clear hR
    by_cases hr : r2 = 0
    · subst hr
      rw [if_pos rfl]
      go_enter Tryz.func96, Tryz.ntmps96
      go_wp2_with fail
      refine (read_tail s _ 0 _ hs (by omega) (by omega) (by omega) (by omega)).mono ?_
      rintro e w' ⟨rfl, rfl⟩
      rw [Int.toNat_natCast, show (0 : Int).toNat = 0 from rfl, HR.out]
      go_wp2
      go_ret3
      exact ⟨rfl, rfl⟩
    · have hq : (r2 != 0) = true := by simpa using hr
      rw [if_neg hr]
      go_enter Tryz.func96, Tryz.ntmps96
      go_wp2_with fail
      refine (read_tail s _ 0 _ hs (by omega) (by omega) (by omega) (by omega)).mono ?_
      rintro e w' ⟨rfl, rfl⟩
      rw [Int.toNat_natCast, show (0 : Int).toNat = 0 from rfl, HR.out]
      go_wp2
      go_ret3
      exact ⟨rfl, rfl⟩
end Go.Proofs.YtimdioacmojkeabGreatDoor

namespace Go.Proofs.YtimdioacmojkeabGreatDoor
open Go.RowKit
set_option maxRecDepth 4000

theorem head_hi (c : Int) (w : World) (h0 : 128 ≤ c) (h1 : c ≤ 255) :
    Calls Tryz.prog 115 #[.int .u8 c] w fun e w' => e = .returned (.tuple #[.int .i64 (c - 128), .int .u8 0]) ∧ w' = w := by
  go_enter Tryz.func115, Tryz.ntmps115
  go_wp2
  go_ret2
  exact ⟨rfl, rfl⟩
theorem head_lo (c : Int) (w : World) (h0 : 0 ≤ c) (h1 : c ≤ 127) :
    Calls Tryz.prog 115 #[.int .u8 c] w fun e w' => e = .returned (.tuple #[.int .i64 (127 - c), .int .u8 255]) ∧ w' = w := by
  go_enter Tryz.func115, Tryz.ntmps115
  go_wp2
  go_ret2
  exact ⟨rfl, rfl⟩
theorem readN_lt (l : List UInt8) (k t : Nat) : (Nm.readN l k t).1 < 18446744073709551616 := by
  unfold Nm.readN
  split
  · simp
  split
  · simp
  split
  · simp
  · rename_i h8 _ _
    have h := Nm.val_lt (Nm.tn t (l.take k))
    have hle : (Nm.tn t (l.take k)).length ≤ 8 := by rw [Nm.tn_length]; have := List.length_take_le k l; omega
    have hp : 256 ^ (Nm.tn t (l.take k)).length ≤ 256 ^ 8 := Nat.pow_le_pow_right (by omega) hle
    show Nm.val (Nm.tn t (l.take k)) < 18446744073709551616
    omega

set_option maxHeartbeats 1000000 in
theorem getI_any (s : ByteArray) (w : World) (hs : s.size ≤ 9223372036854775807) :
    Calls Tryz.prog 111 #[.string s] w fun e w' =>
      e = .returned (.tuple #[.int .i64 (Nm.getI s.data.toList).1, .int .i64 (Nm.getI s.data.toList).2.1, .int .i64 (Nm.getI s.data.toList).2.2]) ∧ w' = w := by
  by_cases h0 : s.size = 0
  · have hr : Nm.getI s.data.toList = (0, 0, 3) := by rw [Nm.getI, if_pos (List.length_eq_zero_iff.1 (by simpa using h0))]
    rw [hr]
    go_enter Tryz.func111, Tryz.ntmps111
    go_wp2
    go_ret3
    exact ⟨rfl, rfl⟩
  · have hp : 0 < s.size := by omega
    have hne := list_ne s hp
    have hb := s[0].toNat_lt
    have hh := head_byte s hp
    have hz : ((s.size : Int) == 0) = false := beq_eq_false_iff_ne.2 (by omega)
    generalize hc : s[0] = c at *
    by_cases hc128 : 128 ≤ c.toNat
    · obtain ⟨kk, hkk⟩ : ∃ kk : Nat, kk = c.toNat - 128 := ⟨_, rfl⟩
      have hk255 : kk ≤ 255 := by omega
      have hg : Nm.getI s.data.toList = if (Nm.readN s.data.toList.tail kk 0).2 = 0 then (if 9223372036854775807 < (Nm.readN s.data.toList.tail kk 0).1 then ((0 : Int), (0 : Nat), (4 : Int)) else ( ((Nm.readN s.data.toList.tail kk 0).1 : Int), 1 + kk, (0 : Int))) else ((0 : Int), (0 : Nat), (Nm.readN s.data.toList.tail kk 0).2) := by
        rw [Nm.getI, if_neg hne]; simp only [hh]; rw [if_pos hc128, ← hkk]
      rw [hg]
      clear hg hh hne h0
      have hkI : (c.toNat : Int) - 128 = (kk : Int) := by omega
      have HK : Hid ((c.toNat : Int) - 128 = (kk : Int)) := hkI
      clear hkI hkk
      have hlt := readN_lt s.data.toList.tail kk 0
      generalize hR : Nm.readN s.data.toList.tail kk 0 = r at *
      obtain ⟨r1, r2⟩ := r
      simp only at hlt
      have HR : Hid (Nm.readN s.data.toList.tail kk 0 = (r1, r2)) := hR
      clear hR
      by_cases hr : r2 = 0
      · subst hr
        rw [if_pos rfl]
        by_cases hm : 9223372036854775807 < r1
        · rw [if_pos hm]
          go_enter Tryz.func111, Tryz.ntmps111
          go_wp2_with (go_at_call 115; refine (head_hi _ _ (by omega) (by omega)).mono ?_; rintro e w' ⟨rfl, rfl⟩; rw [HK.out])
          refine (read_tail s _ 0 _ hs (by omega) (by omega) (by omega) (by omega)).mono ?_
          rintro e w' ⟨rfl, rfl⟩
          rw [Int.toNat_natCast, show (0 : Int).toNat = 0 from rfl, HR.out]
          go_wp2
          go_ret3
          exact ⟨rfl, rfl⟩
        · rw [if_neg hm]
          go_enter Tryz.func111, Tryz.ntmps111
          go_wp2_with (go_at_call 115; refine (head_hi _ _ (by omega) (by omega)).mono ?_; rintro e w' ⟨rfl, rfl⟩; rw [HK.out])
          refine (read_tail s _ 0 _ hs (by omega) (by omega) (by omega) (by omega)).mono ?_
          rintro e w' ⟨rfl, rfl⟩
          rw [Int.toNat_natCast, show (0 : Int).toNat = 0 from rfl, HR.out]
          go_wp2
          go_ret3
          exact ⟨rfl, rfl⟩
      · have hq : (r2 != 0) = true := by simpa using hr
        rw [if_neg hr]
        go_enter Tryz.func111, Tryz.ntmps111
        go_wp2_with (go_at_call 115; refine (head_hi _ _ (by omega) (by omega)).mono ?_; rintro e w' ⟨rfl, rfl⟩; rw [HK.out])
        refine (read_tail s _ 0 _ hs (by omega) (by omega) (by omega) (by omega)).mono ?_
        rintro e w' ⟨rfl, rfl⟩
        rw [Int.toNat_natCast, show (0 : Int).toNat = 0 from rfl, HR.out]
        go_wp2
        go_ret3
        exact ⟨rfl, rfl⟩
    · obtain ⟨kk, hkk⟩ : ∃ kk : Nat, kk = 127 - c.toNat := ⟨_, rfl⟩
      have hk255 : kk ≤ 255 := by omega
      have hg : Nm.getI s.data.toList = if (Nm.readN s.data.toList.tail kk 255).2 = 0 then (if 9223372036854775807 < (Nm.readN s.data.toList.tail kk 255).1 then ((0 : Int), (0 : Nat), (4 : Int)) else (-1 - ((Nm.readN s.data.toList.tail kk 255).1 : Int), 1 + kk, (0 : Int))) else ((0 : Int), (0 : Nat), (Nm.readN s.data.toList.tail kk 255).2) := by
        rw [Nm.getI, if_neg hne]; simp only [hh]; rw [if_neg hc128, ← hkk]
      rw [hg]
      clear hg hh hne h0
      have hkI : 127 - (c.toNat : Int) = (kk : Int) := by omega
      have HK : Hid (127 - (c.toNat : Int) = (kk : Int)) := hkI
      clear hkI hkk
      have hlt := readN_lt s.data.toList.tail kk 255
      generalize hR : Nm.readN s.data.toList.tail kk 255 = r at *
      obtain ⟨r1, r2⟩ := r
      simp only at hlt
      have HR : Hid (Nm.readN s.data.toList.tail kk 255 = (r1, r2)) := hR
      clear hR
      by_cases hr : r2 = 0
      · subst hr
        rw [if_pos rfl]
        by_cases hm : 9223372036854775807 < r1
        · rw [if_pos hm]
          go_enter Tryz.func111, Tryz.ntmps111
          go_wp2_with (go_at_call 115; refine (head_lo _ _ (by omega) (by omega)).mono ?_; rintro e w' ⟨rfl, rfl⟩; rw [HK.out])
          refine (read_tail s _ 255 _ hs (by omega) (by omega) (by omega) (by omega)).mono ?_
          rintro e w' ⟨rfl, rfl⟩
          rw [Int.toNat_natCast, show (255 : Int).toNat = 255 from rfl, HR.out]
          go_wp2
          go_ret3
          exact ⟨rfl, rfl⟩
        · rw [if_neg hm]
          go_enter Tryz.func111, Tryz.ntmps111
          go_wp2_with (go_at_call 115; refine (head_lo _ _ (by omega) (by omega)).mono ?_; rintro e w' ⟨rfl, rfl⟩; rw [HK.out])
          refine (read_tail s _ 255 _ hs (by omega) (by omega) (by omega) (by omega)).mono ?_
          rintro e w' ⟨rfl, rfl⟩
          rw [Int.toNat_natCast, show (255 : Int).toNat = 255 from rfl, HR.out]
          go_wp2
          go_ret3
          exact ⟨rfl, rfl⟩
      · have hq : (r2 != 0) = true := by simpa using hr
        rw [if_neg hr]
        go_enter Tryz.func111, Tryz.ntmps111
        go_wp2_with (go_at_call 115; refine (head_lo _ _ (by omega) (by omega)).mono ?_; rintro e w' ⟨rfl, rfl⟩; rw [HK.out])
        refine (read_tail s _ 255 _ hs (by omega) (by omega) (by omega) (by omega)).mono ?_
        rintro e w' ⟨rfl, rfl⟩
        rw [Int.toNat_natCast, show (255 : Int).toNat = 255 from rfl, HR.out]
        go_wp2
        go_ret3
        exact ⟨rfl, rfl⟩
end Go.Proofs.YtimdioacmojkeabGreatDoor

namespace Go.Proofs.YtimdioacmojkeabGreatDoor
open Go.RowKit
set_option maxRecDepth 4000

/-- a reader in block b: what is left, and its error -/
def Rs (W : World) (b : Nat) (x : Td.St) : Prop := W.heap[b]? = some (.cells #[.string ⟨x.1.toArray⟩, .int .i64 x.2] 116 (0, 0))

section
variable {W W' : World} {b : Nat} {x : Td.St}
theorem Rs.cells (h : Rs W b x) : W.cell? ⟨b, 0, none⟩ = some (.string ⟨x.1.toArray⟩) ∧ W.cell? ⟨b, 1, none⟩ = some (.int .i64 x.2) ∧ W.frozen? ⟨b, 0, none⟩ = false ∧ W.frozen? ⟨b, 1, none⟩ = false := by
  unfold Rs at h
  refine ⟨?_, ?_, ?_, ?_⟩
  · simp only [World.cell?, h]; rfl
  · simp only [World.cell?, h]; rfl
  · simp [World.frozen?, h]
  · simp [World.frozen?, h]

theorem Rs.set0 (h : Rs W b x) (l : List UInt8) : Rs (W.setCell ⟨b, 0, none⟩ (.string ⟨l.toArray⟩)) b (l, x.2) := by
  unfold Rs at h ⊢
  simp [World.setCell, Array.getElem?_modify, h]

theorem Rs.set1 (h : Rs W b x) (e : Int) : Rs (W.setCell ⟨b, 1, none⟩ (.int .i64 e)) b (x.1, e) := by
  unfold Rs at h ⊢
  simp [World.setCell, Array.getElem?_modify, h]

theorem Rs.lt (h : Rs W b x) : b < W.heap.size := (Array.getElem?_eq_some_iff.1 h).1

theorem Rs.past (h : Rs W b x) (hb : Below W.heap.size W W') : Rs W' b x := (hb.block _ h.lt).trans h

end

/-- what a reader's call answers -/
def RsOut (b : Nat) (w : World) (v : Value) (x : Td.St) (e : Ending) (w' : World) : Prop := e = .returned v ∧ Rs w' b x ∧ Kept (fun j => j ≠ b) w w'

theorem tg_ext (l : List UInt8) (k : Nat) : (⟨l.toArray⟩ : ByteArray).extract k (⟨l.toArray⟩ : ByteArray).size = ⟨(l.drop k).toArray⟩ := by
  apply ByteArray.ext
  apply Array.toList_inj.1
  rw [Nn.ext_drop']

theorem tg_size (l : List UInt8) : (⟨l.toArray⟩ : ByteArray).size = l.length := by show l.toArray.size = _; rw [List.size_toArray]

set_option maxHeartbeats 1000000 in
theorem rdtake_any (b k : Nat) (e : Int) (x : Td.St) (w : World) (h : Rs w b x) (hk : e = 0 → k ≤ x.1.length) (hx : x.1.length ≤ 1048576) :
    Calls Tryz.prog 97 #[.pointer (some ⟨b, 0, none⟩), .int .i64 k, .int .i64 e] w (RsOut b w (.bool (Td.tk k e x).1) (Td.tk k e x).2) := by
  unfold RsOut
  obtain ⟨l, er⟩ := x
  obtain ⟨c0, c1, f0, f1⟩ := h.cells
  have H0 : Hid (Rs w b (l, er)) := h
  by_cases h1 : er ≠ 0
  · rw [Td.tk_stay h1]
    have q : (er != 0) = true := by rw [bne_iff_ne]; exact h1
    clear h
    go_enter Tryz.func97, Tryz.ntmps97
    go_wp2_with fail
    go_ret
    exact ⟨rfl, H0.out, Kept.refl _ _⟩
  obtain rfl := Decidable.not_not.mp h1
  by_cases h2 : e ≠ 0
  · rw [Td.tk_err h2]
    have q : (e != 0) = true := by rw [bne_iff_ne]; exact h2
    have H1 : Hid (Rs (w.setCell ⟨b, 1, none⟩ (.int .i64 e)) b (l, e)) := h.set1 e
    have HK : Hid (Kept (fun j => j ≠ b) w (w.setCell ⟨b, 1, none⟩ (.int .i64 e))) := (Kept.refl _ w).setCell (by simp) _
    clear h hk
    go_enter Tryz.func97, Tryz.ntmps97
    go_wp2_with fail
    go_ret
    exact ⟨rfl, H1.out, HK.out⟩
  obtain rfl := Decidable.not_not.mp h2
  rw [Td.tk_ok]
  have hkl : k ≤ l.length := hk rfl
  replace hx : l.length ≤ 1048576 := hx
  obtain ⟨s, hs⟩ : ∃ s : ByteArray, s = ⟨l.toArray⟩ := ⟨_, rfl⟩
  have hsz : s.size = l.length := by rw [hs]; exact tg_size l
  have hex : s.extract k s.size = ⟨(l.drop k).toArray⟩ := by rw [hs]; exact tg_ext l k
  have HE : Hid (s.extract k s.size = ⟨(l.drop k).toArray⟩) := hex
  have H1 : Hid (Rs (w.setCell ⟨b, 0, none⟩ (.string (s.extract k s.size))) b (l.drop k, 0)) := by rw [hex]; exact h.set0 _
  have HK : Hid (Kept (fun j => j ≠ b) w (w.setCell ⟨b, 0, none⟩ (.string (s.extract k s.size)))) := (Kept.refl _ w).setCell (by simp) _
  have hk1 : (k : Int) ≤ (s.size : Int) := by omega
  dsimp only at c0 c1
  rw [← hs] at c0
  have hsx : s.size ≤ 1048576 := by omega
  clear h hk hs hex h1 h2 hkl hsz
  go_enter Tryz.func97, Tryz.ntmps97
  go_wp2_with fail
  go_ret
  exact ⟨rfl, H1.out, HK.out⟩

set_option maxHeartbeats 1000000 in
theorem rdnumber_any (b most : Nat) (x : Td.St) (w : World) (h : Rs w b x) (hm : most ≤ 4096) (hx : x.1.length ≤ 1048576) :
    Calls Tryz.prog 77 #[.pointer (some ⟨b, 0, none⟩), .int .u64 most] w (RsOut b w (.int .i64 (Td.sNum most x).1) (Td.sNum most x).2) := by
  have hg := get_any ⟨x.1.toArray⟩ w (by rw [tg_size]; omega)
  rcases hG : Nm.getN x.1 with ⟨n, k, e0⟩
  have hG' : Nm.getN (⟨x.1.toArray⟩ : ByteArray).data.toList = (n, k, e0) := hG
  rw [hG'] at hg
  have hT : Td.sNum most x = (if (Td.tk k (Td.nuE most x.1) x).1 = true then n else 0, (Td.tk k (Td.nuE most x.1) x).2) := by unfold Td.sNum; rw [hG]
  have hE : Td.nuE most x.1 = if e0 = 0 ∧ most < n then 2 else e0 := by unfold Td.nuE; rw [hG]
  have hk : Td.nuE most x.1 = 0 → k ≤ x.1.length ∧ n ≤ most := fun q => by
    rw [hE] at q
    split at q
    · cases q
    · rename_i q2
      subst q
      exact ⟨(Nm.get_one hG).1, by
        by_cases z : most < n
        · exact absurd ⟨rfl, z⟩ q2
        · omega⟩
  have ht := rdtake_any b k (Td.nuE most x.1) x w h (fun q => (hk q).1) hx
  have HTr : Hid ((Td.tk k (Td.nuE most x.1) x).1 = true → n ≤ most) := fun q => (hk (Td.tk_true q).2).2
  rw [hT]
  obtain ⟨c0, c1, f0, f1⟩ := h.cells
  generalize Td.tk k (Td.nuE most x.1) x = T at *
  generalize Td.nuE most x.1 = E at *
  unfold RsOut at ht ⊢
  have hn0 : (0 : Int) ≤ (n : Int) := by omega
  clear h hk hT hG hG' hx
  go_enter Tryz.func77, Tryz.ntmps77
  go_wp2_with fail
  refine hg.mono ?_
  rintro e u ⟨rfl, hu⟩
  obtain rfl := hu.symm
  clear hg hu
  by_cases h1 : e0 ≠ 0
  · have q : (e0 == 0) = false := by rw [beq_eq_false_iff_ne]; exact h1
    rw [if_neg (fun z => h1 z.1)] at hE
    subst hE
    clear h1
    go_wp2_with fail
    refine ht.mono ?_
    rintro e w2 ⟨rfl, r2, k2⟩
    have HR : Hid (Rs w2 b T.2 ∧ Kept (fun j => j ≠ b) w w2) := ⟨r2, k2⟩
    clear ht r2 k2
    obtain ⟨tb, x2⟩ := T
    dsimp only at *
    cases tb with
    | true =>
      have hnm : n ≤ most := HTr.out rfl
      have hw64 : wrap64 (n : Int) = (n : Int) := by unfold wrap64; omega
      clear HTr
      go_wp2_with fail
      go_ret
      exact ⟨rfl, HR.out⟩
    | false =>
      clear HTr
      go_wp2_with fail
      go_ret
      exact ⟨rfl, HR.out⟩
  obtain rfl := Decidable.not_not.mp h1
  clear h1
  by_cases h2 : most < n
  · rw [if_pos ⟨rfl, h2⟩] at hE
    subst hE
    have q : (most : Int) < (n : Int) := by omega
    go_wp2_with fail
    refine ht.mono ?_
    rintro e w2 ⟨rfl, r2, k2⟩
    have HR : Hid (Rs w2 b T.2 ∧ Kept (fun j => j ≠ b) w w2) := ⟨r2, k2⟩
    clear ht r2 k2
    obtain ⟨tb, x2⟩ := T
    dsimp only at *
    cases tb with
    | true =>
      have hnm : n ≤ most := HTr.out rfl
      have hw64 : wrap64 (n : Int) = (n : Int) := by unfold wrap64; omega
      clear HTr
      go_wp2_with fail
      go_ret
      exact ⟨rfl, HR.out⟩
    | false =>
      clear HTr
      go_wp2_with fail
      go_ret
      exact ⟨rfl, HR.out⟩
  · rw [if_neg (fun z => h2 z.2)] at hE
    subst hE
    have q : ¬ (most : Int) < (n : Int) := by omega
    go_wp2_with fail
    refine ht.mono ?_
    rintro e w2 ⟨rfl, r2, k2⟩
    have HR : Hid (Rs w2 b T.2 ∧ Kept (fun j => j ≠ b) w w2) := ⟨r2, k2⟩
    clear ht r2 k2
    obtain ⟨tb, x2⟩ := T
    dsimp only at *
    cases tb with
    | true =>
      have hnm : n ≤ most := HTr.out rfl
      have hw64 : wrap64 (n : Int) = (n : Int) := by unfold wrap64; omega
      clear HTr
      go_wp2_with fail
      go_ret
      exact ⟨rfl, HR.out⟩
    | false =>
      clear HTr
      go_wp2_with fail
      go_ret
      exact ⟨rfl, HR.out⟩

set_option maxHeartbeats 1000000 in
theorem rdsigned_any (b : Nat) (x : Td.St) (w : World) (h : Rs w b x) (hx : x.1.length ≤ 1048576) :
    Calls Tryz.prog 100 #[.pointer (some ⟨b, 0, none⟩)] w (RsOut b w (.int .i64 (Td.sInt x).1) (Td.sInt x).2) := by
  have hg := getI_any ⟨x.1.toArray⟩ w (by rw [tg_size]; omega)
  rcases hG : Nm.getI x.1 with ⟨n, k, e0⟩
  have hG' : Nm.getI (⟨x.1.toArray⟩ : ByteArray).data.toList = (n, k, e0) := hG
  rw [hG'] at hg
  have hT : Td.sInt x = (if (Td.tk k e0 x).1 = true then n else 0, (Td.tk k e0 x).2) := by unfold Td.sInt; rw [hG]
  have ht := rdtake_any b k e0 x w h (fun q => by subst q; exact (Nm.getI_one hG).1) hx
  rw [hT]
  obtain ⟨c0, c1, f0, f1⟩ := h.cells
  generalize Td.tk k e0 x = T at *
  unfold RsOut at ht ⊢
  clear h hT hG hG' hx
  go_enter Tryz.func100, Tryz.ntmps100
  go_wp2_with fail
  refine hg.mono ?_
  rintro e u ⟨rfl, hu⟩
  obtain rfl := hu.symm
  clear hg hu
  go_wp2_with fail
  refine ht.mono ?_
  rintro e w2 ⟨rfl, r2, k2⟩
  have HR : Hid (Rs w2 b T.2 ∧ Kept (fun j => j ≠ b) w w2) := ⟨r2, k2⟩
  clear ht r2 k2
  obtain ⟨tb, x2⟩ := T
  dsimp only at *
  cases tb with
  | true =>
    go_wp2_with fail
    go_ret
    exact ⟨rfl, HR.out⟩
  | false =>
    go_wp2_with fail
    go_ret
    exact ⟨rfl, HR.out⟩

set_option maxHeartbeats 1000000 in
theorem rdtext_any (b : Nat) (x : Td.St) (w : World) (h : Rs w b x) (hx : x.1.length ≤ 1048576) :
    Calls Tryz.prog 98 #[.pointer (some ⟨b, 0, none⟩)] w (RsOut b w (.string ⟨(Td.sTxt x).1.toArray⟩) (Td.sTxt x).2) := by
  have hg := getT_any ⟨x.1.toArray⟩ w (by rw [tg_size]; omega)
  rcases hG : Nm.getT x.1 with ⟨n, k, e0⟩
  have hG' : Nm.getT (⟨x.1.toArray⟩ : ByteArray).data.toList = (n, k, e0) := hG
  rw [hG'] at hg
  have hT : Td.sTxt x = (if (Td.tk k e0 x).1 = true then n else [], (Td.tk k e0 x).2) := by unfold Td.sTxt; rw [hG]
  have ht := fun W (hW : Rs W b x) => rdtake_any b k e0 x W hW (fun q => by subst q; exact (Nm.getT_one hG).1) hx
  rw [hT]
  obtain ⟨c0, c1, f0, f1⟩ := h.cells
  generalize Td.tk k e0 x = T at *
  unfold RsOut at ht ⊢
  have H0 : Hid (Rs w b x) := h
  clear h hT hG hG' hx
  go_enter Tryz.func98, Tryz.ntmps98
  go_wp2_with fail
  refine hg.mono ?_
  rintro e w1 ⟨rfl, b1⟩
  have HK1 : Hid (Kept (fun j => j ≠ b) w w1) := Kept.of_below b1
  replace ht := ht w1 (H0.out.past b1)
  clear hg b1
  go_wp2_with fail
  refine ht.mono ?_
  rintro e w2 ⟨rfl, r2, k2⟩
  have HR : Hid (Rs w2 b T.2 ∧ Kept (fun j => j ≠ b) w w2) := ⟨r2, HK1.out.trans k2⟩
  clear ht r2 k2
  obtain ⟨tb, x2⟩ := T
  dsimp only at *
  cases tb with
  | true =>
    go_wp2_with fail
    go_ret
    exact ⟨rfl, HR.out⟩
  | false =>
    go_wp2_with fail
    go_ret
    exact ⟨rfl, HR.out⟩

theorem tg_take (l : List UInt8) (k : Nat) : (⟨l.toArray⟩ : ByteArray).extract 0 k = ⟨(l.take k).toArray⟩ := by
  apply ByteArray.ext
  apply Array.toList_inj.1
  rw [Lib.extract_data]
  simp

set_option maxHeartbeats 1000000 in
theorem rdbytes_any (b k : Nat) (x : Td.St) (w : World) (h : Rs w b x) (_hk : k ≤ 8) (hx : x.1.length ≤ 1048576) :
    Calls Tryz.prog 110 #[.pointer (some ⟨b, 0, none⟩), .int .i64 k] w (RsOut b w (.string ⟨(Td.sByt k x).1.toArray⟩) (Td.sByt k x).2) := by
  have hT : Td.sByt k x = (if (Td.tk k (Td.shE k x.1) x).1 = true then x.1.take k else [], (Td.tk k (Td.shE k x.1) x).2) := rfl
  have hE : Td.shE k x.1 = if x.1.length < k then 3 else 0 := rfl
  have hz : Td.shE k x.1 = 0 → k ≤ x.1.length := fun q => by
    rw [hE] at q
    split at q
    · cases q
    · omega
  have ht := rdtake_any b k (Td.shE k x.1) x w h hz hx
  have HTr : Hid ((Td.tk k (Td.shE k x.1) x).1 = true → k ≤ x.1.length) := fun q => hz (Td.tk_true q).2
  rw [hT]
  obtain ⟨c0, c1, f0, f1⟩ := h.cells
  generalize Td.tk k (Td.shE k x.1) x = T at *
  generalize Td.shE k x.1 = E at *
  obtain ⟨l, er⟩ := x
  dsimp only at *
  obtain ⟨s, hs⟩ : ∃ s : ByteArray, s = ⟨l.toArray⟩ := ⟨_, rfl⟩
  have hsz : s.size = l.length := by rw [hs]; exact tg_size l
  have HE : Hid (s.extract 0 k = ⟨(l.take k).toArray⟩) := by show _ = _; rw [hs]; exact tg_take l k
  rw [← hs] at c0
  rw [← hsz] at hE HTr hx
  unfold RsOut at ht ⊢
  clear h hT hs hsz hz
  go_enter Tryz.func110, Tryz.ntmps110
  by_cases h2 : s.size < k
  · rw [if_pos h2] at hE
    subst hE
    have q : (s.size : Int) < (k : Int) := by omega
    go_wp2_with fail
    refine ht.mono ?_
    rintro e w2 ⟨rfl, r2, k2⟩
    have HR : Hid (Rs w2 b T.2 ∧ Kept (fun j => j ≠ b) w w2) := ⟨r2, k2⟩
    clear ht r2 k2
    obtain ⟨tb, x2⟩ := T
    dsimp only at *
    cases tb with
    | true =>
      exact absurd (HTr.out rfl) (by omega)
    | false =>
      clear HTr
      go_wp2_with fail
      go_ret
      exact ⟨rfl, HR.out⟩
  · rw [if_neg h2] at hE
    subst hE
    have q : ¬ (s.size : Int) < (k : Int) := by omega
    go_wp2_with fail
    refine ht.mono ?_
    rintro e w2 ⟨rfl, r2, k2⟩
    have HR : Hid (Rs w2 b T.2 ∧ Kept (fun j => j ≠ b) w w2) := ⟨r2, k2⟩
    clear ht r2 k2
    obtain ⟨tb, x2⟩ := T
    dsimp only at *
    cases tb with
    | true =>
      have hks : (k : Int) ≤ (s.size : Int) := by have := HTr.out rfl; omega
      clear HTr
      go_wp2_with fail
      go_ret
      exact ⟨by rw [← HE.out]; rfl, HR.out⟩
    | false =>
      clear HTr
      go_wp2_with fail
      go_ret
      exact ⟨rfl, HR.out⟩

set_option maxHeartbeats 1000000 in
theorem rdkind_any (b : Nat) (x : Td.St) (w : World) (h : Rs w b x) (hx : x.1.length ≤ 1048576) :
    Calls Tryz.prog 99 #[.pointer (some ⟨b, 0, none⟩)] w (RsOut b w (.int .i64 (Td.sKind x).1) (Td.sKind x).2) := by
  have ht := rdbytes_any b 1 x w h (by omega) hx
  have hT : Td.sKind x = (((Td.sByt 1 x).1.headD 0).toNat, (Td.sByt 1 x).2) := rfl
  have hl := Td.sByt_bd 1 x
  rw [hT]
  generalize Td.sByt 1 x = T at *
  obtain ⟨y, x2⟩ := T
  unfold RsOut at ht ⊢
  dsimp only at *
  clear h hT hx
  match y, hl with
  | [], _ =>
    go_enter Tryz.func99, Tryz.ntmps99
    go_wp2_with fail
    refine ht.mono ?_
    rintro e w2 ⟨rfl, r2, k2⟩
    have HR : Hid (Rs w2 b x2 ∧ Kept (fun j => j ≠ b) w w2) := ⟨r2, k2⟩
    clear ht r2 k2
    go_wp2_with fail
    go_ret
    exact ⟨rfl, HR.out⟩
  | [c], _ =>
    obtain ⟨s, hs⟩ : ∃ s : ByteArray, s = ⟨[c].toArray⟩ := ⟨_, rfl⟩
    have hsz : 0 < s.size := by rw [hs, tg_size]; simp
    have e1 : (s.toList == []) = false := data_ne (by rw [hs]; simp)
    obtain ⟨c0, hc0⟩ : ∃ c0 : Nat, s[0].toNat = c0 := ⟨_, rfl⟩
    have HV : Hid (([c].headD 0).toNat = c0) := by show _ = _; rw [← hc0]; subst hs; rfl
    have hc : c0 < 256 := by rw [← hc0]; exact s[0].toNat_lt
    have hwc : wrap64 (c0 : Int) = (c0 : Int) := by unfold wrap64; omega
    rw [← hs] at ht
    clear hs
    go_enter Tryz.func99, Tryz.ntmps99
    go_wp2_with fail
    refine ht.mono ?_
    rintro e w2 ⟨rfl, r2, k2⟩
    have HR : Hid (Rs w2 b x2 ∧ Kept (fun j => j ≠ b) w w2) := ⟨r2, k2⟩
    clear ht r2 k2
    go_wp2_with fail
    go_ret
    exact ⟨by rw [HV.out]; rfl, HR.out⟩

end Go.Proofs.YtimdioacmojkeabGreatDoor

namespace Go.Proofs.YtimdioacmojkeabGreatDoor
open Go.RowKit
set_option maxRecDepth 4000

abbrev Tz8 : Array Value := #[.int .u8 0, .int .u8 0, .int .u8 0, .int .u8 0, .int .u8 0, .int .u8 0, .int .u8 0, .int .u8 0]

theorem Kept.then {p : Nat → Prop} {A B C : World} {n : Nat} (h : Kept p A B) (hb : Below n B C) (hn : A.heap.size ≤ n) : Kept p A C :=
  ⟨hb.os.trans h.os, hb.tape.trans h.tape, hb.output.trans h.output, Nat.le_trans h.size hb.size, fun k hk hp => (hb.block k (by omega)).trans (h.block k hk hp)⟩

theorem tid_info : (Tryz.prog.info? 30).map (fun i => (i.zero, i.size, i.bytes)) = some (some (.agg Tz8), 8, 8) := by kernel_rfl

/-- the world behind the copy of y into block M -/
def cpW (W : World) (M : Nat) (y : List UInt8) : World := W.setCells M 0 (y.map B)

theorem cpW_cells {W : World} {M : Nat} {y : List UInt8} (h : W.heap[M]? = some (.cells Tz8 30 (0, 0))) (hy : y = [] ∨ y.length = 8) : (cpW W M y).heap[M]? = some (.cells (idC (Td.eight y)).toArray 30 (0, 0)) := by
  rcases hy with rfl | hy
  · exact h
  · rw [Td.eight_id hy]
    match y, hy with
    | [b0, b1, b2, b3, b4, b5, b6, b7], _ => simp [cpW, World.setCells, World.setCell, Array.getElem?_modify, h, idC]

theorem cpW_below {W : World} {M : Nat} {y : List UInt8} (hy : y = [] ∨ y.length = 8) : Below M W (cpW W M y) := by
  rcases hy with rfl | hy
  · exact Below.refl _ _
  · match y, hy with
    | [b0, b1, b2, b3, b4, b5, b6, b7], _ =>
      exact ((((((((Below.refl M W).setCell (p := ⟨M, 0, none⟩) (Nat.le_refl _) _).setCell (p := ⟨M, 1, none⟩) (Nat.le_refl _) _).setCell (p := ⟨M, 2, none⟩) (Nat.le_refl _) _).setCell (p := ⟨M, 3, none⟩) (Nat.le_refl _) _).setCell (p := ⟨M, 4, none⟩) (Nat.le_refl _) _).setCell (p := ⟨M, 5, none⟩) (Nat.le_refl _) _).setCell (p := ⟨M, 6, none⟩) (Nat.le_refl _) _).setCell (p := ⟨M, 7, none⟩) (Nat.le_refl _) _

theorem cpW_run {W : World} {M : Nat} {y : List UInt8} (h : W.heap[M]? = some (.cells Tz8 30 (0, 0))) (hy : y.length ≤ 8) :
    (Builtin.copy_ #[89, 9] 3 #[.slice (some ⟨M, 0, none⟩) 8 8, .string ⟨y.toArray⟩]).run Tryz.prog W = .ok (.int .i64 y.length) (cpW W M y) := by
  have hz : ∀ w, (Go.sizeOf 5).run Tryz.prog w = .ok 1 w := fun w => by go_simp
  have hc : ∀ j, j < 8 → W.cell? ⟨M, j, none⟩ = some (.int .u8 0) := fun j hj => by
    rw [cell_of_row _ M j _ _ _ h, show Tz8 = Array.replicate 8 (Value.int .u8 0) from rfl, Array.getElem?_replicate, if_pos hj]
  have hr := run_copy_string (P := Tryz.prog) W 89 9 3 5 M 0 8 8 ⟨y.toArray⟩ (by kernel_rfl) hz (by rw [tg_size]; exact hy) (fun j hj => by rw [tg_size] at hj; rw [hc _ (by omega)]; rfl) (fun j _ => by simp [World.frozen?, h])
  rw [tg_size] at hr
  exact hr

theorem sByt_form (x : Td.St) (k : Nat) : (Td.sByt k x).1 = [] ∨ (Td.sByt k x).1.length = k := by
  unfold Td.sByt
  simp only
  split
  · rename_i h
    obtain ⟨_, h2⟩ := Td.tk_true h
    unfold Td.shE at h2
    split at h2
    · cases h2
    · refine .inr ?_
      rw [List.length_take]
      omega
  · exact .inl rfl

theorem tg_new8 (W : World) (v0 v1 v2 v3 v4 v5 v6 v7 : Value) {T : TypeId} : ∀ j u, [v0, v1, v2, v3, v4, v5, v6, v7][j]? = some u → (W.alloc (.cells #[v0, v1, v2, v3, v4, v5, v6, v7] T)).cell? ((⟨W.heap.size, 0, none⟩ : Addr).add j) = some u := by
  intro j u hj
  rw [show ((⟨W.heap.size, 0, none⟩ : Addr).add j) = ⟨W.heap.size, j, none⟩ from by unfold Addr.add; split <;> simp_all]
  match j, hj with
  | 0, hj => simp at hj; subst hj; simp
  | 1, hj => simp at hj; subst hj; simp
  | 2, hj => simp at hj; subst hj; simp
  | 3, hj => simp at hj; subst hj; simp
  | 4, hj => simp at hj; subst hj; simp
  | 5, hj => simp at hj; subst hj; simp
  | 6, hj => simp at hj; subst hj; simp
  | 7, hj => simp at hj; subst hj; simp

/-- what parts answers -/
def PtOut (b : Nat) (w : World) (x : Td.St) (e : Ending) (w' : World) : Prop :=
  ∃ v, e = .returned v ∧ w'.ownsRow w.heap.size 30 8 v (Td.sParts x).1.length (rowR idC (Td.sParts x).1) ∧ Rs w' b (Td.sParts x).2 ∧ Kept (fun j => j ≠ b) w w'

set_option maxHeartbeats 4000000 in
set_option maxRecDepth 10000 in
theorem rdparts_any (b : Nat) (x : Td.St) (w : World) (h : Rs w b x) (hx : x.1.length ≤ 1048576) :
    Calls Tryz.prog 101 #[.pointer (some ⟨b, 0, none⟩)] w (PtOut b w x) := by
  unfold PtOut
  obtain ⟨i0, hi, hz0, hz1, hz2⟩ := info_of' tid_info
  have hg := rdnumber_any b 300 x w h (by omega) hx
  have hS : Td.sParts x = Td.sIds (Td.sNum 300 x).1 (Td.sNum 300 x).2 := rfl
  have hnp := Td.sNum_most 300 x
  have hl1 := Td.sNum_len 300 x
  rw [hS]
  rcases hN : Td.sNum 300 x with ⟨np, x1⟩
  rw [hN] at hg hnp hl1
  dsimp only at *
  unfold RsOut at hg
  have HB : Hid (b < w.heap.size) := h.lt
  have HL : Hid (∀ k, (Td.sIds k x1).2.1.length ≤ 1048576) := fun k => by have := Td.sIds_len x1 k; omega
  have HSt : Hid (∀ k, Td.sIds (k + 1) x1 = ((Td.sIds k x1).1 ++ [Td.eight (Td.sByt 8 (Td.sIds k x1).2).1], (Td.sByt 8 (Td.sIds k x1).2).2)) := fun k => rfl
  have HLn : Hid (∀ k, (Td.sIds k x1).1.length = k) := fun k => (Td.sIds_bd x1 k).1
  have H0 : Hid (Td.sIds 0 x1 = ([], x1)) := rfl
  clear h hS hN hx hl1
  go_enter Tryz.func101, Tryz.ntmps101
  go_wp2_with fail
  refine hg.mono ?_
  rintro e w1 ⟨rfl, r1, k1⟩
  have HR1 : Hid (Rs w1 b x1) := r1
  have HK1 : Hid (Kept (fun j => j ≠ b) w w1) := k1
  clear hg r1 k1
  go_wp2_with fail
  go_loopw [3, 7] (fun vo i wr => ∃ k : Nat, k ≤ np ∧ i = .int .i64 k ∧ Hid (Rs wr b (Td.sIds k x1).2) ∧ Hid (wr.ownsRow w.heap.size 30 8 vo k (rowR idC (Td.sIds k x1).1)) ∧ Hid (Kept (fun j => j ≠ b) w wr)) (fun _ i _ => np - (intOf i).toNat)
  case atStart => exact ⟨0, by omega, rfl, HR1, World.ownsRow_nil _ _ _ _, HK1⟩
  case round =>
    clear HR1 HK1
    obtain ⟨k, hk, rfl, HR, HO, HK⟩ := hrel
    obtain ⟨so, co, hvo⟩ := own_len HO.out
    subst hvo
    by_cases hlt : k < np
    · have hst := HSt.out k
      have hlk := HL.out k
      have HLk : Hid ((Td.sIds k x1).1.length = k) := HLn.out k
      have hy8 := Td.sByt_bd 8 (Td.sIds k x1).2
      have hyf := sByt_form (Td.sIds k x1).2 8
      obtain ⟨W1, hW1⟩ : ∃ W1, W1 = wr.alloc (.cells Tz8 30) := ⟨_, rfl⟩
      have hB1 : Below wr.heap.size wr W1 := by rw [hW1]; exact (Below.refl _ wr).alloc (Nat.le_refl _) _
      have HM1 : Hid (W1.heap[wr.heap.size]? = some (.cells Tz8 30 (0, 0))) := by rw [hW1]; exact heap_alloc_new wr _
      have hby := fun W (hW : Rs W b (Td.sIds k x1).2) => rdbytes_any b 8 (Td.sIds k x1).2 W hW (by omega) hlk
      unfold RsOut at hby
      have HR1 : Hid (Rs W1 b (Td.sIds k x1).2) := HR.out.past hB1
      generalize Td.sByt 8 (Td.sIds k x1).2 = Y at *
      obtain ⟨y, x2⟩ := Y
      dsimp only at *
      obtain ⟨M, hM⟩ : ∃ M, M = wr.heap.size := ⟨_, rfl⟩
      go_upto_region 5 with fail
      rw [← hW1, ← hM]
      clear hW1
      have HB1 : Hid (Below wr.heap.size wr W1) := hB1
      have HMe : Hid (M = wr.heap.size) := hM
      rw [← hM] at HM1
      have HMb : Hid (M ≠ b) := by have h1 := HB.out; have h2 := HK.out.size; show _ ≠ _; omega
      clear hM hB1 HR
      have hcp := fun (W : World) (hW : W.heap[M]? = some (.cells Tz8 30 (0, 0))) => cpW_run (y := y) hW hy8
      have hby1 := hby W1.drew (show Rs W1.drew b (Td.sIds k x1).2 from HR1.out)
      clear hby
      go_region_with (go_at_call 110; refine hby1.mono ?_; rintro e w2 ⟨rfl, r2, k2⟩; have HK2 : Hid (Kept (fun j => j ≠ b) W1 w2) := ⟨k2.os, k2.tape, k2.output, k2.size, k2.block⟩; have HR2 : Hid (Rs w2 b x2) := r2; have hcp2 := hcp w2 (HK2.out.obj HMb.out HM1.out); clear r2 k2)
      obtain ⟨W3, hW3⟩ : ∃ W3, W3 = cpW w2 M y := ⟨_, rfl⟩
      have hB3 : Below M w2 W3 := by rw [hW3]; exact cpW_below hyf
      have HM3 : Hid (W3.heap[M]? = some (.cells (idC (Td.eight y)).toArray 30 (0, 0))) := by rw [hW3]; exact cpW_cells (HK2.out.obj HMb.out HM1.out) hyf
      have hbM : b < M := by have h1 := HB.out; have h2 := HK.out.size; have h3 := HMe.out; omega
      have HR3 : Hid (Rs W3 b (Td.sIds (k + 1) x1).2) := by rw [hst]; exact (hB3.block b hbM).trans HR2.out
      have o2 : w2.ownsRow w.heap.size 30 8 (.slice so k co) k (rowR idC (Td.sIds k x1).1) := own_kept (own_below HO.out HB1.out) HK2.out fun g hg => by have := (own_block HO.out hg).choose_spec.2.1; have := HB.out; omega
      have o3 : W3.ownsRow w.heap.size 30 8 (.slice so k co) k (rowR idC (Td.sIds k x1).1) := own_kept o2 (Kept.of_below_at (p := fun j => j < M) hB3 fun _ q => q) fun g hg => by have := (own_block HO.out hg).choose_spec.2.2; rw [HMe.out]; exact this
      have HK3 : Hid (Kept (fun j => j ≠ b) w W3) := ((HK.out.trans (Kept.of_below HB1.out)).trans HK2.out).then hB3 (by rw [HMe.out]; exact HK.out.size)
      have hsz3 : w.heap.size ≤ W3.heap.size := HK3.out.size
      obtain ⟨b0, b1, b2, b3, b4, b5, b6, b7, hE8⟩ : ∃ b0 b1 b2 b3 b4 b5 b6 b7, Td.eight y = [b0, b1, b2, b3, b4, b5, b6, b7] := by
        have h8 := Td.eight_len hy8
        match Td.eight y, h8 with
        | [b0, b1, b2, b3, b4, b5, b6, b7], _ => exact ⟨b0, b1, b2, b3, b4, b5, b6, b7, rfl⟩
      have HId : Hid ((Td.sIds (k + 1) x1).1 = (Td.sIds k x1).1 ++ [[b0, b1, b2, b3, b4, b5, b6, b7]]) := by show _ = _; rw [hst, hE8]
      rw [hE8] at HM3
      have z0 : W3.cell? ⟨M, 0, none⟩ = some (.int .u8 (b0.toNat : Int)) := by rw [cell_of_row _ M 0 _ _ _ HM3.out]; rfl
      have z1 : W3.cell? ⟨M, 1, none⟩ = some (.int .u8 (b1.toNat : Int)) := by rw [cell_of_row _ M 1 _ _ _ HM3.out]; rfl
      have z2 : W3.cell? ⟨M, 2, none⟩ = some (.int .u8 (b2.toNat : Int)) := by rw [cell_of_row _ M 2 _ _ _ HM3.out]; rfl
      have z3 : W3.cell? ⟨M, 3, none⟩ = some (.int .u8 (b3.toNat : Int)) := by rw [cell_of_row _ M 3 _ _ _ HM3.out]; rfl
      have z4 : W3.cell? ⟨M, 4, none⟩ = some (.int .u8 (b4.toNat : Int)) := by rw [cell_of_row _ M 4 _ _ _ HM3.out]; rfl
      have z5 : W3.cell? ⟨M, 5, none⟩ = some (.int .u8 (b5.toNat : Int)) := by rw [cell_of_row _ M 5 _ _ _ HM3.out]; rfl
      have z6 : W3.cell? ⟨M, 6, none⟩ = some (.int .u8 (b6.toNat : Int)) := by rw [cell_of_row _ M 6 _ _ _ HM3.out]; rfl
      have z7 : W3.cell? ⟨M, 7, none⟩ = some (.int .u8 (b7.toNat : Int)) := by rw [cell_of_row _ M 7 _ _ _ HM3.out]; rfl
      rw [← hW3]
      clear hW3 hB3 HM3 HR2 o2 hcp2 HK2 hby1 hcp hst hlk hy8 hyf hE8 HR1 HM1 HB1 HO HK HMe HMb hbM
      obtain ⟨RW, hr⟩ : ∃ RW, rowR idC (Td.sIds k x1).1 = RW := ⟨_, rfl⟩
      have HRW : Hid (rowR idC (Td.sIds k x1).1 = RW) := hr
      rw [hr] at o3
      clear hr
      go_wp2_with (at_builtin; refine wpList_append_own _ rfl (.tmp 13) (.tmp 15) 78 rfl w.heap.size 30 i0 (.agg Tz8) 8 8 Tryz.underlying78 hi hz0 hz1 hz2 rfl (by decide) _ _ _ rfl (o3.alloc _) ⟨W3.heap.size, 0, none⟩ 1 1 [.int .u8 (b0.toNat : Int), .int .u8 (b1.toNat : Int), .int .u8 (b2.toNat : Int), .int .u8 (b3.toNat : Int), .int .u8 (b4.toNat : Int), .int .u8 (b5.toNat : Int), .int .u8 (b6.toNat : Int), .int .u8 (b7.toNat : Int)] rfl rfl (tg_new8 W3 _ _ _ _ _ _ _ _) ?c2 ?c3 ?c4 ?c5 ?_)
      case c2 => simp [Value.oneCell']
      case c3 => unfold maxLen; omega
      case c4 => omega
      case c5 => first | omega | (simp; omega)
      intro v6 w5 o5 hgrow _
      have hb3 : Below W3.heap.size W3 (W3.alloc (.cells #[.int .u8 (b0.toNat : Int), .int .u8 (b1.toNat : Int), .int .u8 (b2.toNat : Int), .int .u8 (b3.toNat : Int), .int .u8 (b4.toNat : Int), .int .u8 (b5.toNat : Int), .int .u8 (b6.toNat : Int), .int .u8 (b7.toNat : Int)] 30)) := (Below.refl _ W3).alloc (Nat.le_refl _) _
      have hlt3 : ∀ g, (Value.slice so k co).ownBlock = some g → w.heap.size ≤ g := fun g hg => (own_block o3 hg).choose_spec.2.1
      have HO5 : Hid (w5.ownsRow w.heap.size 30 8 v6 (k + 1) (rowR idC (Td.sIds (k + 1) x1).1)) := by
        show World.ownsRow _ _ _ _ _ _ _
        rw [HId.out, rowR_more, HRW.out]
        exact o5
      have HR5 : Hid (Rs w5 b (Td.sIds (k + 1) x1).2) := by
        refine (hgrow.block b (Nat.lt_of_lt_of_le HR3.out.lt hb3.size) fun e => ?_).trans (HR3.out.past hb3)
        have := hlt3 b e.symm
        have := HB.out
        omega
      have HK5 : Hid (Kept (fun j => j ≠ b) w w5) := by
        have hz : Kept (fun j => j ≠ b) w (W3.alloc (.cells #[.int .u8 (b0.toNat : Int), .int .u8 (b1.toNat : Int), .int .u8 (b2.toNat : Int), .int .u8 (b3.toNat : Int), .int .u8 (b4.toNat : Int), .int .u8 (b5.toNat : Int), .int .u8 (b6.toNat : Int), .int .u8 (b7.toNat : Int)] 30)) := HK3.out.alloc _
        exact ⟨hgrow.os.trans hz.os, hgrow.tape.trans hz.tape, hgrow.output.trans hz.output, Nat.le_trans hz.size hgrow.size, fun j hj hp => (hgrow.block j (Nat.lt_of_lt_of_le hj hz.size) fun e => by have := hlt3 j e.symm; omega).trans (hz.block j hj hp)⟩
      clear o5 hgrow o3 hb3 hlt3 HR3 HK3 HId HRW z0 z1 z2 z3 z4 z5 z6 z7
      go_wp2_with fail
      go_roundw
      case measure => simp only [intOf]; omega
      case rel => exact ⟨k + 1, by omega, by go_num, HR5, HO5, HK5⟩
    · obtain rfl : k = np := by omega
      have HLk : Hid ((Td.sIds k x1).1.length = k) := HLn.out k
      go_wp2_with fail
      go_ret
      exact ⟨_, rfl, by rw [HLk.out]; exact HO.out, HR.out, HK.out⟩

end Go.Proofs.YtimdioacmojkeabGreatDoor

namespace Go.Proofs.YtimdioacmojkeabGreatDoor
open Go.RowKit
set_option maxRecDepth 4000

/-- two nodes in blocks of their own: the answer, and the one that is filled; a reader in block br -/
structure R3 (w W : World) (br b : Nat) (x0 x1 x2 x3 x4 x5 x6 : Value) : Prop where
  res : W.heap[b]? = some (.cells #[.string ⟨#[]⟩, .int .i64 0, .int .i64 0, .int .i64 0, .int .i64 0, .slice none 0 0, .string ⟨#[]⟩] 80 (0, 0))
  str : W.heap[b + 1]? = some (.cells #[x0, x1, x2, x3, x4, x5, x6] 80 (0, 0))
  kept : Kept (fun j => j ≠ br) w W
  at_ : w.heap.size = b
  lt : br < b

section
variable {w W W' : World} {br b : Nat} {x0 x1 x2 x3 x4 x5 x6 y : Value} {x : Td.St}
theorem R3.past (h : R3 w W br b x0 x1 x2 x3 x4 x5 x6) (hk : Kept (fun j => j ≠ br) W W') : R3 w W' br b x0 x1 x2 x3 x4 x5 x6 :=
  ⟨hk.obj (by have := h.lt; omega) h.res, hk.obj (by have := h.lt; omega) h.str, h.kept.trans hk, h.at_, h.lt⟩

theorem R3.setAt (h : R3 w W br b x0 x1 x2 x3 x4 x5 x6) (j : Nat) (y : Value) {y0 y1 y2 y3 y4 y5 y6 : Value} (e : (#[x0, x1, x2, x3, x4, x5, x6] : Array Value).setIfInBounds j y = #[y0, y1, y2, y3, y4, y5, y6]) :
    R3 w (W.setCell ⟨b + 1, j, none⟩ y) br b y0 y1 y2 y3 y4 y5 y6 := by
  refine ⟨?_, ?_, h.kept.then ((Below.refl (b + 1) W).setCell (p := ⟨b + 1, j, none⟩) (Nat.le_refl _) _) (by have := h.at_; omega), h.at_, h.lt⟩
  · rw [Below.heap_setCell _ _ _ _ (by simp)]; exact h.res
  · rw [← e]
    simp [World.setCell, Array.getElem?_modify, h.str]

theorem R3.rs (h : R3 w W br b x0 x1 x2 x3 x4 x5 x6) (hr : Rs W br x) (j : Nat) (y : Value) : Rs (W.setCell ⟨b + 1, j, none⟩ y) br x := by
  unfold Rs
  rw [Below.heap_setCell _ _ _ _ (by have := h.lt; simp; omega)]
  exact hr

end

/-- what node answers -/
def NoOut (br : Nat) (w : World) (x : Td.St) (e : Ending) (w' : World) : Prop :=
  ∃ (n : Nod) (v : Value), e = .returned (ndV n v) ∧ n.nd = (Td.sNode x).1 ∧ w'.ownsRow w.heap.size 30 8 v n.parts.length (rowR idC n.parts) ∧ n.Ok ∧ Rs w' br (Td.sNode x).2 ∧ Kept (fun j => j ≠ br) w w'

set_option maxHeartbeats 8000000 in
set_option maxRecDepth 10000 in
theorem rdnode_any (br : Nat) (x : Td.St) (w : World) (h : Rs w br x) (hx : x.1.length ≤ 1048576) :
    Calls Tryz.prog 78 #[.pointer (some ⟨br, 0, none⟩)] w (NoOut br w x) := by
  unfold NoOut
  obtain ⟨R, hR⟩ : ∃ R, Td.sNode x = R := ⟨_, rfl⟩
  have HR : Hid (Td.sNode x = R) := hR
  rw [hR]
  clear hR
  obtain ⟨W0, hW0⟩ : ∃ W0, W0 = (w.alloc (.cells #[.string ⟨#[]⟩, .int .i64 0, .int .i64 0, .int .i64 0, .int .i64 0, .slice none 0 0, .string ⟨#[]⟩] 80)).alloc (.cells #[.string ⟨#[]⟩, .int .i64 0, .int .i64 0, .int .i64 0, .int .i64 0, .slice none 0 0, .string ⟨#[]⟩] 80) := ⟨_, rfl⟩
  have hB0 : Below w.heap.size w W0 := by rw [hW0]; exact ((Below.refl _ w).alloc (Nat.le_refl _) _).alloc (by simp) _
  have HA : Hid (R3 w W0 br w.heap.size (.string ⟨#[]⟩) (.int .i64 0) (.int .i64 0) (.int .i64 0) (.int .i64 0) (.slice none 0 0) (.string ⟨#[]⟩)) := by
    refine ⟨?_, ?_, Kept.of_below hB0, rfl, h.lt⟩
    · rw [hW0]
      exact ((Below.refl _ (w.alloc (.cells #[.string ⟨#[]⟩, .int .i64 0, .int .i64 0, .int .i64 0, .int .i64 0, .slice none 0 0, .string ⟨#[]⟩] 80))).alloc (Nat.le_refl _) _).block w.heap.size (by simp) ▸ heap_alloc_new w _
    · rw [hW0]
      have := heap_alloc_new (w.alloc (.cells #[.string ⟨#[]⟩, .int .i64 0, .int .i64 0, .int .i64 0, .int .i64 0, .slice none 0 0, .string ⟨#[]⟩] 80)) (.cells #[.string ⟨#[]⟩, .int .i64 0, .int .i64 0, .int .i64 0, .int .i64 0, .slice none 0 0, .string ⟨#[]⟩] 80)
      simpa using this
  have HRs : Hid (Rs W0 br x) := h.past hB0
  clear hB0 h
  obtain ⟨b, hb⟩ : ∃ b, b = w.heap.size := ⟨_, rfl⟩
  have HWb : Hid (b = w.heap.size) := hb
  rw [← hb] at HA
  go_enter Tryz.func78, Tryz.ntmps78
  go_upto_region 2 with fail
  rw [← hW0, ← hb]
  clear hW0 hb
  have hcall := rdtext_any br x W0 HRs.out hx
  have hbd0 := Td.sTxt_bd x
  have hln := Td.sTxt_len x
  unfold RsOut at hcall
  rcases hE : Td.sTxt x with ⟨t0, x1⟩
  rw [hE] at hcall hbd0 hln
  have HE0 : Hid (Td.sTxt x = (t0, x1)) := hE
  replace hx : x1.1.length ≤ 1048576 := Nat.le_trans hln hx
  dsimp only at hcall hbd0
  clear hE hln
  go_wp2_with fail
  refine hcall.mono ?_
  rintro e w1 ⟨rfl, r0, k0⟩
  have HP := HA.out.past k0
  obtain ⟨c_0, c_1, c_2, c_3, c_4, c_5, c_6⟩ := seven_at HP.str
  obtain ⟨z_0, z_1, z_2, z_3, z_4, z_5, z_6⟩ := seven_fz HP.str
  obtain ⟨WN, hWN⟩ : ∃ WN, WN = w1.setCell ⟨b + 1, 0, none⟩ (.string ⟨t0.toArray⟩) := ⟨_, rfl⟩
  have HA' : Hid (R3 w WN br b (.string ⟨t0.toArray⟩) (.int .i64 0) (.int .i64 0) (.int .i64 0) (.int .i64 0) (.slice none 0 0) (.string ⟨#[]⟩)) := by rw [hWN]; exact HP.setAt 0 _ rfl
  have HRs' : Hid (Rs WN br x1) := by rw [hWN]; exact HP.rs r0 0 _
  clear HP hcall HA HRs r0 k0
  go_upto_region 3 with fail
  rw [← hWN]
  clear hWN c_0 c_1 c_2 c_3 c_4 c_5 c_6 z_0 z_1 z_2 z_3 z_4 z_5 z_6 w1
  have HA := HA'
  have HRs := HRs'
  clear HA' HRs'
  generalize WN = V1 at *
  have hcall := rdkind_any br x1 V1 HRs.out hx
  have hbd1 := Td.sKind_bd x1
  have hln := Td.sKind_len x1
  unfold RsOut at hcall
  rcases hE : Td.sKind x1 with ⟨t1, x2⟩
  rw [hE] at hcall hbd1 hln
  have HE1 : Hid (Td.sKind x1 = (t1, x2)) := hE
  replace hx : x2.1.length ≤ 1048576 := Nat.le_trans hln hx
  dsimp only at hcall hbd1
  clear hE hln
  go_wp2_with fail
  refine hcall.mono ?_
  rintro e w2 ⟨rfl, r1, k1⟩
  have HP := HA.out.past k1
  obtain ⟨c_0, c_1, c_2, c_3, c_4, c_5, c_6⟩ := seven_at HP.str
  obtain ⟨z_0, z_1, z_2, z_3, z_4, z_5, z_6⟩ := seven_fz HP.str
  obtain ⟨WN, hWN⟩ : ∃ WN, WN = w2.setCell ⟨b + 1, 1, none⟩ (.int .i64 (t1 : Nat)) := ⟨_, rfl⟩
  have HA' : Hid (R3 w WN br b (.string ⟨t0.toArray⟩) (.int .i64 (t1 : Nat)) (.int .i64 0) (.int .i64 0) (.int .i64 0) (.slice none 0 0) (.string ⟨#[]⟩)) := by rw [hWN]; exact HP.setAt 1 _ rfl
  have HRs' : Hid (Rs WN br x2) := by rw [hWN]; exact HP.rs r1 1 _
  clear HP hcall HA HRs r1 k1
  go_upto_region 4 with fail
  rw [← hWN]
  clear hWN c_0 c_1 c_2 c_3 c_4 c_5 c_6 z_0 z_1 z_2 z_3 z_4 z_5 z_6 w2
  have HA := HA'
  have HRs := HRs'
  clear HA' HRs'
  generalize WN = V2 at *
  have hcall := rdnumber_any br 511 x2 V2 HRs.out (by omega) hx
  have hbd2 := Td.sNum_most 511 x2
  have hln := Td.sNum_len 511 x2
  unfold RsOut at hcall
  rcases hE : Td.sNum 511 x2 with ⟨t2, x3⟩
  rw [hE] at hcall hbd2 hln
  have HE2 : Hid (Td.sNum 511 x2 = (t2, x3)) := hE
  replace hx : x3.1.length ≤ 1048576 := Nat.le_trans hln hx
  dsimp only at hcall hbd2
  clear hE hln
  go_wp2_with fail
  refine hcall.mono ?_
  rintro e w3 ⟨rfl, r2, k2⟩
  have HP := HA.out.past k2
  obtain ⟨c_0, c_1, c_2, c_3, c_4, c_5, c_6⟩ := seven_at HP.str
  obtain ⟨z_0, z_1, z_2, z_3, z_4, z_5, z_6⟩ := seven_fz HP.str
  obtain ⟨WN, hWN⟩ : ∃ WN, WN = w3.setCell ⟨b + 1, 2, none⟩ (.int .i64 (t2 : Nat)) := ⟨_, rfl⟩
  have HA' : Hid (R3 w WN br b (.string ⟨t0.toArray⟩) (.int .i64 (t1 : Nat)) (.int .i64 (t2 : Nat)) (.int .i64 0) (.int .i64 0) (.slice none 0 0) (.string ⟨#[]⟩)) := by rw [hWN]; exact HP.setAt 2 _ rfl
  have HRs' : Hid (Rs WN br x3) := by rw [hWN]; exact HP.rs r2 2 _
  clear HP hcall HA HRs r2 k2
  go_upto_region 5 with fail
  rw [← hWN]
  clear hWN c_0 c_1 c_2 c_3 c_4 c_5 c_6 z_0 z_1 z_2 z_3 z_4 z_5 z_6 w3
  have HA := HA'
  have HRs := HRs'
  clear HA' HRs'
  generalize WN = V3 at *
  have hcall := rdsigned_any br x3 V3 HRs.out hx
  have hbd3 := Td.sInt_bd x3
  have hln := Td.sInt_len x3
  unfold RsOut at hcall
  rcases hE : Td.sInt x3 with ⟨t3, x4⟩
  rw [hE] at hcall hbd3 hln
  have HE3 : Hid (Td.sInt x3 = (t3, x4)) := hE
  replace hx : x4.1.length ≤ 1048576 := Nat.le_trans hln hx
  dsimp only at hcall hbd3
  clear hE hln
  go_wp2_with fail
  refine hcall.mono ?_
  rintro e w4 ⟨rfl, r3, k3⟩
  have HP := HA.out.past k3
  obtain ⟨c_0, c_1, c_2, c_3, c_4, c_5, c_6⟩ := seven_at HP.str
  obtain ⟨z_0, z_1, z_2, z_3, z_4, z_5, z_6⟩ := seven_fz HP.str
  obtain ⟨WN, hWN⟩ : ∃ WN, WN = w4.setCell ⟨b + 1, 3, none⟩ (.int .i64 t3) := ⟨_, rfl⟩
  have HA' : Hid (R3 w WN br b (.string ⟨t0.toArray⟩) (.int .i64 (t1 : Nat)) (.int .i64 (t2 : Nat)) (.int .i64 t3) (.int .i64 0) (.slice none 0 0) (.string ⟨#[]⟩)) := by rw [hWN]; exact HP.setAt 3 _ rfl
  have HRs' : Hid (Rs WN br x4) := by rw [hWN]; exact HP.rs r3 3 _
  clear HP hcall HA HRs r3 k3
  go_upto_region 6 with fail
  rw [← hWN]
  clear hWN c_0 c_1 c_2 c_3 c_4 c_5 c_6 z_0 z_1 z_2 z_3 z_4 z_5 z_6 w4
  have HA := HA'
  have HRs := HRs'
  clear HA' HRs'
  generalize WN = V4 at *
  have hcall := rdnumber_any br 4096 x4 V4 HRs.out (by omega) hx
  have hbd4 := Td.sNum_most 4096 x4
  have hln := Td.sNum_len 4096 x4
  unfold RsOut at hcall
  rcases hE : Td.sNum 4096 x4 with ⟨t4, x5⟩
  rw [hE] at hcall hbd4 hln
  have HE4 : Hid (Td.sNum 4096 x4 = (t4, x5)) := hE
  replace hx : x5.1.length ≤ 1048576 := Nat.le_trans hln hx
  dsimp only at hcall hbd4
  clear hE hln
  go_wp2_with fail
  refine hcall.mono ?_
  rintro e w5 ⟨rfl, r4, k4⟩
  have HP := HA.out.past k4
  obtain ⟨c_0, c_1, c_2, c_3, c_4, c_5, c_6⟩ := seven_at HP.str
  obtain ⟨z_0, z_1, z_2, z_3, z_4, z_5, z_6⟩ := seven_fz HP.str
  obtain ⟨WN, hWN⟩ : ∃ WN, WN = w5.setCell ⟨b + 1, 4, none⟩ (.int .i64 (t4 : Nat)) := ⟨_, rfl⟩
  have HA' : Hid (R3 w WN br b (.string ⟨t0.toArray⟩) (.int .i64 (t1 : Nat)) (.int .i64 (t2 : Nat)) (.int .i64 t3) (.int .i64 (t4 : Nat)) (.slice none 0 0) (.string ⟨#[]⟩)) := by rw [hWN]; exact HP.setAt 4 _ rfl
  have HRs' : Hid (Rs WN br x5) := by rw [hWN]; exact HP.rs r4 4 _
  clear HP hcall HA HRs r4 k4
  go_upto_region 7 with fail
  rw [← hWN]
  clear hWN c_0 c_1 c_2 c_3 c_4 c_5 c_6 z_0 z_1 z_2 z_3 z_4 z_5 z_6 w5
  have HA := HA'
  have HRs := HRs'
  clear HA' HRs'
  generalize WN = V5 at *
  have hcall := rdparts_any br x5 V5 HRs.out hx
  have hbd5 := Td.sParts_bd x5
  have hln := Td.sParts_len x5
  unfold PtOut at hcall
  rcases hE : Td.sParts x5 with ⟨t5, x6⟩
  rw [hE] at hcall hbd5 hln
  have HE5 : Hid (Td.sParts x5 = (t5, x6)) := hE
  replace hx : x6.1.length ≤ 1048576 := Nat.le_trans hln hx
  dsimp only at hcall hbd5
  clear hE hln
  go_wp2_with fail
  refine hcall.mono ?_
  rintro e w6 ⟨v5, rfl, o5, r5, k5⟩
  obtain ⟨a5, c5, rfl⟩ := own_len o5
  have HO : Hid (w6.ownsRow (b + 2) 30 8 (.slice a5 t5.length c5) t5.length (rowR idC t5)) := own_lower o5 (Array.getElem?_eq_some_iff.1 HA.out.str).1
  have HP := HA.out.past k5
  obtain ⟨c_0, c_1, c_2, c_3, c_4, c_5, c_6⟩ := seven_at HP.str
  obtain ⟨z_0, z_1, z_2, z_3, z_4, z_5, z_6⟩ := seven_fz HP.str
  obtain ⟨WN, hWN⟩ : ∃ WN, WN = w6.setCell ⟨b + 1, 5, none⟩ (.slice a5 t5.length c5) := ⟨_, rfl⟩
  have HA' : Hid (R3 w WN br b (.string ⟨t0.toArray⟩) (.int .i64 (t1 : Nat)) (.int .i64 (t2 : Nat)) (.int .i64 t3) (.int .i64 (t4 : Nat)) (.slice a5 t5.length c5) (.string ⟨#[]⟩)) := by rw [hWN]; exact HP.setAt 5 _ rfl
  have HRs' : Hid (Rs WN br x6) := by rw [hWN]; exact HP.rs r5 5 _
  have HO' : Hid (WN.ownsRow (b + 2) 30 8 (.slice a5 t5.length c5) t5.length (rowR idC t5)) := by rw [hWN]; exact own_kept HO.out ((Kept.refl (fun k => k ≠ b + 1) _).setCell (by simp) _) fun g hg => by have := own_ge HO.out hg; omega
  clear HP hcall HA HRs r5 k5 HO o5
  go_upto_region 8 with fail
  rw [← hWN]
  clear hWN c_0 c_1 c_2 c_3 c_4 c_5 c_6 z_0 z_1 z_2 z_3 z_4 z_5 z_6 w6
  have HA := HA'
  have HRs := HRs'
  clear HA' HRs'
  have HO := HO'
  clear HO'
  generalize WN = V6 at *
  have hcall := rdtext_any br x6 V6 HRs.out hx
  have hbd6 := Td.sTxt_bd x6
  have hln := Td.sTxt_len x6
  unfold RsOut at hcall
  rcases hE : Td.sTxt x6 with ⟨t6, x7⟩
  rw [hE] at hcall hbd6 hln
  have HE6 : Hid (Td.sTxt x6 = (t6, x7)) := hE
  replace hx : x7.1.length ≤ 1048576 := Nat.le_trans hln hx
  dsimp only at hcall hbd6
  clear hE hln
  go_wp2_with fail
  refine hcall.mono ?_
  rintro e w7 ⟨rfl, r6, k6⟩
  have HO6 : Hid (w7.ownsRow (b + 2) 30 8 (.slice a5 t5.length c5) t5.length (rowR idC t5)) := own_kept HO.out k6 fun g hg => by have := own_ge HO.out hg; have := HA.out.lt; omega
  have HP := HA.out.past k6
  obtain ⟨c_0, c_1, c_2, c_3, c_4, c_5, c_6⟩ := seven_at HP.str
  obtain ⟨z_0, z_1, z_2, z_3, z_4, z_5, z_6⟩ := seven_fz HP.str
  obtain ⟨WN, hWN⟩ : ∃ WN, WN = w7.setCell ⟨b + 1, 6, none⟩ (.string ⟨t6.toArray⟩) := ⟨_, rfl⟩
  have HA' : Hid (R3 w WN br b (.string ⟨t0.toArray⟩) (.int .i64 (t1 : Nat)) (.int .i64 (t2 : Nat)) (.int .i64 t3) (.int .i64 (t4 : Nat)) (.slice a5 t5.length c5) (.string ⟨t6.toArray⟩)) := by rw [hWN]; exact HP.setAt 6 _ rfl
  have HRs' : Hid (Rs WN br x7) := by rw [hWN]; exact HP.rs r6 6 _
  have HO' : Hid (WN.ownsRow (b + 2) 30 8 (.slice a5 t5.length c5) t5.length (rowR idC t5)) := by rw [hWN]; exact own_kept HO6.out ((Kept.refl (fun k => k ≠ b + 1) _).setCell (by simp) _) fun g hg => by have := own_ge HO6.out hg; omega
  clear HP hcall HA HRs r6 k6 HO HO6
  go_upto_region 9 with fail
  rw [← hWN]
  clear hWN c_0 c_1 c_2 c_3 c_4 c_5 c_6 z_0 z_1 z_2 z_3 z_4 z_5 z_6 w7
  have HA := HA'
  have HRs := HRs'
  clear HA' HRs'
  have HO := HO'
  clear HO'
  generalize WN = V7 at *
  obtain ⟨m0, m1, m2, m3, m4, m5, m6⟩ := seven_at HA.out.str
  obtain ⟨r0, r1, r2, r3, r4, r5, r6⟩ := seven_at HA.out.res
  obtain ⟨f0, f1, f2, f3, f4, f5, f6⟩ := seven_fz HA.out.res
  have HSv : Hid ((((((((V7.setCell ⟨b, 0, none⟩ (.string ⟨t0.toArray⟩)).setCell ⟨b, 1, none⟩ (.int .i64 (t1 : Nat))).setCell ⟨b, 2, none⟩ (.int .i64 (t2 : Nat))).setCell ⟨b, 3, none⟩ (.int .i64 t3)).setCell ⟨b, 4, none⟩ (.int .i64 (t4 : Nat))).setCell ⟨b, 5, none⟩ (.slice a5 t5.length c5)).setCell ⟨b, 6, none⟩ (.string ⟨t6.toArray⟩)).heap[b]? = some (.cells #[.string ⟨t0.toArray⟩, .int .i64 (t1 : Nat), .int .i64 (t2 : Nat), .int .i64 t3, .int .i64 (t4 : Nat), .slice a5 t5.length c5, .string ⟨t6.toArray⟩] 80 (0, 0))) := set_seven HA.out.res _ _ _ _ _ _ _
  have HKf : Hid (Kept (fun j => j ≠ b) V7 (((((((V7.setCell ⟨b, 0, none⟩ (.string ⟨t0.toArray⟩)).setCell ⟨b, 1, none⟩ (.int .i64 (t1 : Nat))).setCell ⟨b, 2, none⟩ (.int .i64 (t2 : Nat))).setCell ⟨b, 3, none⟩ (.int .i64 t3)).setCell ⟨b, 4, none⟩ (.int .i64 (t4 : Nat))).setCell ⟨b, 5, none⟩ (.slice a5 t5.length c5)).setCell ⟨b, 6, none⟩ (.string ⟨t6.toArray⟩))) := kept7 V7 b _ _ _ _ _ _ _
  have hlt := HA.out.lt
  have HFin : Hid (((((((((V7.setCell ⟨b, 0, none⟩ (.string ⟨t0.toArray⟩)).setCell ⟨b, 1, none⟩ (.int .i64 (t1 : Nat))).setCell ⟨b, 2, none⟩ (.int .i64 (t2 : Nat))).setCell ⟨b, 3, none⟩ (.int .i64 t3)).setCell ⟨b, 4, none⟩ (.int .i64 (t4 : Nat))).setCell ⟨b, 5, none⟩ (.slice a5 t5.length c5)).setCell ⟨b, 6, none⟩ (.string ⟨t6.toArray⟩)).ownsRow w.heap.size 30 8 (.slice a5 t5.length c5) t5.length (rowR idC t5)) ∧ Rs (((((((V7.setCell ⟨b, 0, none⟩ (.string ⟨t0.toArray⟩)).setCell ⟨b, 1, none⟩ (.int .i64 (t1 : Nat))).setCell ⟨b, 2, none⟩ (.int .i64 (t2 : Nat))).setCell ⟨b, 3, none⟩ (.int .i64 t3)).setCell ⟨b, 4, none⟩ (.int .i64 (t4 : Nat))).setCell ⟨b, 5, none⟩ (.slice a5 t5.length c5)).setCell ⟨b, 6, none⟩ (.string ⟨t6.toArray⟩)) br x7 ∧ Kept (fun j => j ≠ br) w (((((((V7.setCell ⟨b, 0, none⟩ (.string ⟨t0.toArray⟩)).setCell ⟨b, 1, none⟩ (.int .i64 (t1 : Nat))).setCell ⟨b, 2, none⟩ (.int .i64 (t2 : Nat))).setCell ⟨b, 3, none⟩ (.int .i64 t3)).setCell ⟨b, 4, none⟩ (.int .i64 (t4 : Nat))).setCell ⟨b, 5, none⟩ (.slice a5 t5.length c5)).setCell ⟨b, 6, none⟩ (.string ⟨t6.toArray⟩))) := by
    refine ⟨own_lower (own_kept HO.out HKf.out fun g hg => by have := own_ge HO.out hg; omega) (by rw [← HWb.out]; omega), HKf.out.obj (by omega) HRs.out, ?_⟩
    exact ⟨HKf.out.os.trans HA.out.kept.os, HKf.out.tape.trans HA.out.kept.tape, HKf.out.output.trans HA.out.kept.output, Nat.le_trans HA.out.kept.size HKf.out.size, fun j hj hp => (HKf.out.block j (Nat.lt_of_lt_of_le hj HA.out.kept.size) (by have := HWb.out; omega)).trans (HA.out.kept.block j hj hp)⟩
  have HNd : Hid (R = (⟨t0, (t1 : Nat), (t2 : Nat), t3, (t4 : Nat), t5, t6⟩, x7)) := by
    show _ = _
    rw [← HR.out, Td.sNode, HE0.out]
    simp only [HE1.out, HE2.out, HE3.out, HE4.out, HE5.out, HE6.out]
  have HOk : Hid (Nod.Ok ⟨⟨t0.toArray⟩, (t1 : Nat), (t2 : Nat), t3, (t4 : Nat), t5, ⟨t6.toArray⟩⟩) := ⟨wf_i (n := (t1 : Nat)) (by omega) (by omega), wf_i (n := (t2 : Nat)) (by omega) (by omega), wf_i hbd3.1 hbd3.2, wf_i (n := (t4 : Nat)) (by omega) (by omega), by show ByteArray.size _ ≤ _; rw [tg_size]; omega, by show ByteArray.size _ ≤ _; rw [tg_size]; omega, hbd5.2⟩
  clear HKf HA HRs HO HE0 HE1 HE2 HE3 HE4 HE5 HE6 HR hbd0 hbd1 hbd2 hbd3 hbd4 hbd5 hbd6 hx
  go_wp2_with fail
  obtain ⟨WF, hWF⟩ : ∃ WF, WF = (((((((V7.setCell ⟨b, 0, none⟩ (.string ⟨t0.toArray⟩)).setCell ⟨b, 1, none⟩ (.int .i64 (t1 : Nat))).setCell ⟨b, 2, none⟩ (.int .i64 (t2 : Nat))).setCell ⟨b, 3, none⟩ (.int .i64 t3)).setCell ⟨b, 4, none⟩ (.int .i64 (t4 : Nat))).setCell ⟨b, 5, none⟩ (.slice a5 t5.length c5)).setCell ⟨b, 6, none⟩ (.string ⟨t6.toArray⟩)) := ⟨_, rfl⟩
  rw [← hWF] at HFin HSv ⊢
  obtain ⟨q0, q1, q2, q3, q4, q5, q6⟩ := seven_at HSv.out
  refine bodyPost_ret (v := .agg #[.string ⟨t0.toArray⟩, .int .i64 (t1 : Nat), .int .i64 (t2 : Nat), .int .i64 t3, .int .i64 (t4 : Nat), .slice a5 t5.length c5, .string ⟨t6.toArray⟩]) ?_ rfl ⟨⟨⟨t0.toArray⟩, (t1 : Nat), (t2 : Nat), t3, (t4 : Nat), t5, ⟨t6.toArray⟩⟩, .slice a5 t5.length c5, rfl, by rw [HNd.out]; rfl, HFin.out.1, HOk.out, by rw [HNd.out]; exact HFin.out.2.1, HFin.out.2.2⟩
  simp [results, asAddr, go_sem, q0, q1, q2, q3, q4, q5, q6]

end Go.Proofs.YtimdioacmojkeabGreatDoor

namespace Go.Proofs.YtimdioacmojkeabGreatDoor
open Go.RowKit
set_option maxRecDepth 4000

set_option maxHeartbeats 400000 in
theorem num_put (n : Int) (w : World) (n0 : 0 ≤ n) (n1 : n ≤ 18446744073709551615) :
    Calls Tryz.prog 68 #[.int .u64 n] w fun e w' => e = .returned (.string ⟨(Nm.put n.toNat).toArray⟩) ∧ Below w.heap.size w w' := by
  have hl := Nm.dig_length_le n.toNat
  go_enter Tryz.func68, Tryz.ntmps68
  go_wp2_with (go_at_call 86; refine (count_any _ _ n0 n1).mono ?_; rintro e w' ⟨rfl, rfl⟩)
  refine (digits_app w'.heap.size _ [UInt8.ofNat ((Nm.dig n.toNat).length : Int).toNat] n _ 0 _ (owns_one _ _ (by omega) (by omega)) (by simp) (by simp) n0 n1 (by omega) (by omega) (by omega) (by omega)).mono ?_
  rintro e w2 ⟨v, rfl, hown, hbel⟩
  have hcv := run_str hown
  have hb : Below w'.heap.size w' w2 := ((Below.refl _ _).alloc (Nat.le_refl _) _).trans hbel
  clear hown hbel
  go_wp2
  go_ret
  exact ⟨by simp [Nm.put, Nm.tn_zero, Nm.dig_low], hb⟩
end Go.Proofs.YtimdioacmojkeabGreatDoor

namespace Go.Proofs.YtimdioacmojkeabGreatDoor
open Go.RowKit
set_option maxRecDepth 4000

set_option maxHeartbeats 400000 in
theorem putI_any (n : Int) (w : World) (n0 : -9223372036854775808 ≤ n) (n1 : n ≤ 9223372036854775807) :
    Calls Tryz.prog 70 #[.int .i64 n] w fun e w' => e = .returned (.string ⟨(Nm.putI n).toArray⟩) ∧ Below w.heap.size w w' := by
  by_cases h : n < 0
  · have hl := Nm.dig_length_le (-1 - n).toNat
    have hp : Hid (Nm.putI n = [UInt8.ofNat (127 - ((Nm.dig (-1 - n).toNat).length : Int)).toNat] ++ Nm.tn (255 : Int).toNat (Nm.low ((Nm.dig (-1 - n).toNat).length : Int).toNat (-1 - n).toNat)) := by
      show _ = _
      rw [Nm.putI, if_pos h, Int.toNat_natCast, Nm.dig_low, show (127 - ((Nm.dig (-1 - n).toNat).length : Int)).toNat = 127 - (Nm.dig (-1 - n).toNat).length from by omega]
      rfl
    go_enter Tryz.func70, Tryz.ntmps70
    go_wp2_with (go_at_call 86; refine (count_any (-1 - n) _ (by omega) (by omega)).mono ?_; rintro e w' ⟨rfl, rfl⟩)
    refine (digits_app w'.heap.size _ [UInt8.ofNat (127 - ((Nm.dig (-1 - n).toNat).length : Int)).toNat] _ _ 255 _ (owns_one _ _ (by omega) (by omega)) (by simp) (by simp) (by omega) (by omega) (by omega) (by omega) (by omega) (by omega)).mono ?_
    rintro e w2 ⟨v, rfl, hown, hbel⟩
    rw [← hp.out] at hown
    have hcv := run_str hown
    have hb : Below w'.heap.size w' w2 := ((Below.refl _ _).alloc (Nat.le_refl _) _).trans hbel
    clear hown hbel
    go_wp2
    go_ret
    exact ⟨rfl, hb⟩
  · have hl := Nm.dig_length_le n.toNat
    have hp : Hid (Nm.putI n = [UInt8.ofNat (128 + ((Nm.dig n.toNat).length : Int)).toNat] ++ Nm.tn (0 : Int).toNat (Nm.low ((Nm.dig n.toNat).length : Int).toNat n.toNat)) := by
      show _ = _
      rw [Nm.putI, if_neg h, Int.toNat_natCast, Nm.dig_low, show (128 + ((Nm.dig n.toNat).length : Int)).toNat = 128 + (Nm.dig n.toNat).length from by omega]
      rw [show (0 : Int).toNat = 0 from rfl, Nm.tn_zero]
      rfl
    go_enter Tryz.func70, Tryz.ntmps70
    go_wp2_with (go_at_call 86; refine (count_any n _ (by omega) (by omega)).mono ?_; rintro e w' ⟨rfl, rfl⟩)
    refine (digits_app w'.heap.size _ [UInt8.ofNat (128 + ((Nm.dig n.toNat).length : Int)).toNat] _ _ 0 _ (owns_one _ _ (by omega) (by omega)) (by simp) (by simp) (by omega) (by omega) (by omega) (by omega) (by omega) (by omega)).mono ?_
    rintro e w2 ⟨v, rfl, hown, hbel⟩
    rw [← hp.out] at hown
    have hcv := run_str hown
    have hb : Below w'.heap.size w' w2 := ((Below.refl _ _).alloc (Nat.le_refl _) _).trans hbel
    clear hown hbel
    go_wp2
    go_ret
    exact ⟨rfl, hb⟩
end Go.Proofs.YtimdioacmojkeabGreatDoor
