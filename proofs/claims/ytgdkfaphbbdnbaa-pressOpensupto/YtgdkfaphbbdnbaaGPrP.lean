/-
  What countBytes and appendNumber of package press answer.
  What appendLengths of package press answers.
  A writer of bits as it lies in memory; what put of package press does.
  What pressCoded of package press answers.
  What Press of package press answers.
-/
import Derived.Test.YtgdkfaphbbdnbaaGPrO
import Derived.Test.YtgdkfaphbbdnbaaGNum
import Derived.Test.YtgdkfaphbbdnbaaGLzB
import Derived.Test.YtgdkfaphbbdnbaaGHfC
import Derived.Lib.AppendStr
import Derived.Deep.MidRow
import Derived.Laws.AppendOwnNone
import Derived.Test.YtgdkfaphbbdnbaaGPrM
import Derived.BigRegion
import Derived.Test.YtgdkfaphbbdnbaaGHfD
import Derived.Deep.Cut

namespace Go.Proofs.Ytgdkfaphbbdnbaa
open Go.RowKit
set_option maxRecDepth 4000

set_option maxHeartbeats 1000000 in
theorem tally_any (s : ByteArray) (w : World) (hs : s.size ≤ 1048576) :
    Calls Try.prog 27 #[.string s] w fun e w' => ∃ v, e = .returned v ∧ w'.ownsRow w.heap.size 3 1 v 256 ((Hf.up (Pr.tally s.data.toList)).map Iv) ∧ Below w.heap.size w w' := by
  obtain ⟨i0, hi, hz0, hz1, hz2⟩ := info_parts info_int
  go_enter Try.func27, Try.ntmps27
  go_wp2_with (at_make; refine wpList_make_full _ rfl (.const (.int .i64 256)) (.const (.int .i64 256)) 31 rfl w.heap.size 3 i0 (.int .i64 0) 1 Try.underlying31 hi hz0 hz1 .i64 .i64 _ _ 256 rfl rfl rfl rfl (by rw [hz2]; omega) (by unfold maxLen; omega) (Nat.le_refl _) ?_; intro w1 hown hgrow)
  have hown1 := made_zeros hown
  have HB1 : Hid (Below w.heap.size w w1) := (Below.refl _ _).grown hgrow (Nat.le_refl _) (fun k hk => by cases hk)
  have HO1 : Hid (w1.ownsRow w.heap.size 3 1 (.slice (some ⟨w.heap.size, 0, none⟩) 256 256) 256 ((Hf.up (Pr.tally (s.data.toList.take 0))).map Iv)) := by
    have e : Hf.up (Pr.tally []) = List.replicate 256 (0 : Int) := by decide
    rw [List.take_zero, e]
    exact hown1
  clear hown hgrow hown1
  go_wp2_with fail
  go_loopw [8] (fun i wr => ∃ k : Nat, k ≤ s.size ∧ i = .int .i64 k ∧ wr.ownsRow w.heap.size 3 1 (.slice (some ⟨w.heap.size, 0, none⟩) 256 256) 256 ((Hf.up (Pr.tally (s.data.toList.take k))).map Iv) ∧ Hid (Below w.heap.size w wr)) (fun i _ => s.size - (intOf i).toNat)
  case atStart => exact ⟨0, by omega, rfl, HO1.out, HB1⟩
  case round =>
    obtain ⟨k, hk, rfl, hown, hbel⟩ := hrel
    by_cases hlt : k < s.size
    · have b0 := s[k].toNat_lt
      have HT : Hid (Pr.tally (s.data.toList.take (k + 1)) = (Pr.tally (s.data.toList.take k)).set s[k].toNat ((Pr.tally (s.data.toList.take k)).getD s[k].toNat 0 + 1)) := by
        show _ = _
        rw [take_snoc s k hlt, Pr.tally_snoc]
      have hle := Pr.tally_le (s.data.toList.take k)
      have hlen := Pr.tally_length (s.data.toList.take k)
      have hX := Hf.getD_le hle s[k].toNat
      have htl : (s.data.toList.take k).length ≤ k := List.length_take_le _ _
      generalize ha : s[k] = a at *
      generalize Pr.tally (s.data.toList.take k) = F at *
      have c0 := own_at hown a.toNat (by rw [Hf.up_length, hlen]; exact b0)
      rw [Hf.up_get] at c0
      have f0 := hown.frozenAt a.toNat
      have HO := own_store hown a.toNat ((F.getD a.toNat 0 + 1 : Nat) : Int)
      rw [← Pr.up_set, ← HT.out] at HO
      generalize F.getD a.toNat 0 = X at *
      have HO' : Hid ((wr.setCell ⟨w.heap.size, a.toNat, none⟩ (.int .i64 ((X : Int) + 1))).ownsRow w.heap.size 3 1 (.slice (some ⟨w.heap.size, 0, none⟩) 256 256) 256 ((Hf.up (Pr.tally (s.data.toList.take (k + 1)))).map Iv)) := HO
      have HB2 : Hid (Below w.heap.size w (wr.setCell ⟨w.heap.size, a.toNat, none⟩ (.int .i64 ((X : Int) + 1)))) := hbel.out.setCell (Nat.le_refl _) _
      clear HO hown hbel hlen hle HT HO1
      go_wp2_with fail
      go_roundw
      case rel => exact ⟨k + 1, by omega, by go_num, HO'.out, HB2⟩
      case measure => simp only [intOf]; omega
    · obtain rfl : k = s.size := by omega
      rw [List.take_of_length_le (by rw [← Lib.size_eq]; exact Nat.le_refl _)] at hown
      go_wp2_with fail
      go_ret
      exact ⟨_, rfl, hown, hbel.out⟩

set_option maxHeartbeats 1000000 in
theorem anum_any (base : Nat) (v : Value) (xs : List UInt8) (n : Nat) (w : World) (hown : w.ownsRow base 5 1 v xs.length (xs.map B)) (hb : base ≤ w.heap.size) (hx : xs.length ≤ 1048576) (hn : n ≤ 1048576) :
    Calls Try.prog 29 #[v, .int .i64 n] w fun e w' => ∃ v', e = .returned v' ∧ w'.ownsRow base 5 1 v' (xs ++ Nm.put n).length ((xs ++ Nm.put n).map B) ∧ Below base w w' ∧ Kept (fun k => v.ownBlock ≠ some k) w w' := by
  obtain ⟨i0, hi, hz0, hz1, hz2⟩ := info_parts info_u8
  obtain ⟨a, c, rfl⟩ := own_form hown
  have hp := num_put n w (by omega) (by omega)
  rw [Int.toNat_natCast] at hp
  have hl := Nm.dig_length_le n
  go_enter Try.func29, Try.ntmps29
  go_wp2_with fail
  refine hp.mono ?_
  rintro e w1 ⟨rfl, hb1⟩
  have hown1 := own_below hown hb1
  have hB1 : Below base w w1 := hb1.mono hb
  have hs1 := hB1.size
  have hpl : (Nm.put n).length ≤ 9 := by unfold Nm.put; simp only [List.length_cons]; omega
  have HPS : Hid ((⟨(Nm.put n).toArray⟩ : ByteArray).size = (Nm.put n).length) := by show (Nm.put n).toArray.size = _; rw [List.size_toArray]
  have HK1 : Hid (Kept (fun k => (Value.slice a xs.length c).ownBlock ≠ some k) w w1) := Kept.of_below hb1
  clear hp hb1 hown
  obtain ⟨S, hS⟩ : ∃ S : ByteArray, (⟨(Nm.put n).toArray⟩ : ByteArray) = S := ⟨_, rfl⟩
  have HS : Hid (Lib.strCells S = (Nm.put n).map B ∧ S.size = (Nm.put n).length) := by rw [← hS]; exact ⟨rfl, HPS.out⟩
  have hSz : S.size ≤ 9 := by rw [HS.out.2]; exact hpl
  rw [hS]
  clear hS HPS hpl
  go_wp2_with (at_builtin; refine Lib.wpList_append_own_string _ rfl (.tmp 5) (.tmp 8) 26 9 rfl base 5 i0 Try.underlying26 Try.underlying9 hi hz0 hz1 hz2 _ _ _ rfl hown1 S rfl ?c3 ?c4 ?c5 ?_)
  case c3 => unfold maxLen; omega
  case c4 => omega
  case c5 => omega
  intro v1 w3 hown3 hgrow _
  have HO : Hid (w3.ownsRow base 5 1 v1 (xs ++ Nm.put n).length ((xs ++ Nm.put n).map B)) := by
    rw [HS.out.1, HS.out.2] at hown3
    rw [List.length_append, List.map_append]
    exact hown3
  have HB3 : Hid (Below base w w3) := hB1.grown hgrow (by omega) fun j hj => (hown1.lt j hj).1
  have HK3 : Hid (Kept (fun k => (Value.slice a xs.length c).ownBlock ≠ some k) w w3) := HK1.out.grown hgrow fun k hk hp => hp hk
  clear hown3 hgrow hown1 hB1
  go_wp2_with fail
  go_ret
  exact ⟨_, rfl, HO.out, HB3.out, HK3.out⟩
end Go.Proofs.Ytgdkfaphbbdnbaa

namespace Go.Proofs.Ytgdkfaphbbdnbaa
open Go.RowKit
set_option maxRecDepth 4000

namespace Pr
/-- the bytes that are there ahead of k, each with its length -/
def headTo (l : List Nat) : Nat → Bs
  | 0 => []
  | k + 1 => if 0 < l.getD k 0 then headTo l k ++ [UInt8.ofNat k, UInt8.ofNat (l.getD k 0)] else headTo l k
theorem head_to (l : List Nat) (k n : Nat) : headTo l k ++ headFrom l k n = headTo l (k + n) := by
  induction n generalizing k with
  | zero => simp [headFrom]
  | succ n ih =>
    rw [show k + (n + 1) = (k + 1) + n by omega, ← ih, headFrom, headTo]
    split
    · rw [List.append_assoc]; rfl
    · rfl
theorem headTo_all (l : List Nat) (n : Nat) : headTo l n = headFrom l 0 n := by
  have := head_to l 0 n
  rw [Nat.zero_add] at this
  rw [← this]
  rfl
theorem headTo_len (l : List Nat) (k : Nat) : (headTo l k).length ≤ 2 * k := by
  induction k with
  | zero => exact Nat.le_refl _
  | succ k ih =>
    rw [headTo]
    split
    · rw [List.length_append]; simp only [List.length_cons, List.length_nil]; omega
    · omega
end Pr
theorem two_atp {W : World} {B : Nat} {x y : Value} (h0 : W.cell? ⟨B, 0, none⟩ = some x) (h1 : W.cell? ⟨B, 1, none⟩ = some y) : ∀ j u, [x, y][j]? = some u → W.cell? ((⟨B, 0, none⟩ : Addr).add j) = some u := by
  intro j u hj
  rw [Addr.add_mid, Nat.zero_add]
  match j, hj with
  | 0, hj => rw [h0]; exact hj
  | 1, hj => rw [h1]; exact hj

set_option maxHeartbeats 4000000 in
theorem alens_any (base : Nat) (v u : Value) (xs : List UInt8) (l : List Nat) (w : World) (hown : w.ownsRow base 5 1 v xs.length (xs.map B)) (hb : base ≤ w.heap.size) (hx : xs.length ≤ 1000000) (h : Ints w u (Hf.up l)) (hl : l.length ≤ 256) (h48 : ∀ n ∈ l, n ≤ 48) :
    Calls Try.prog 30 #[v, u] w fun e w' => ∃ v', e = .returned v' ∧ w'.ownsRow base 5 1 v' (xs ++ (Nm.put (Pr.manyFrom l 0 l.length) ++ Pr.headFrom l 0 l.length)).length ((xs ++ (Nm.put (Pr.manyFrom l 0 l.length) ++ Pr.headFrom l 0 l.length)).map B) ∧ Below base w w' := by
  obtain ⟨i0, hi, hz0, hz1, hz2⟩ := info_parts info_u8
  obtain ⟨va, vc, rfl⟩ := own_form hown
  obtain ⟨a, c, rfl⟩ := h.slice
  rw [Hf.up_length] at h ⊢
  have HI : Hid (Ints w (.slice a l.length c) (Hf.up l)) := h
  have HV : Hid (w.ownsRow base 5 1 (.slice va xs.length vc) xs.length (xs.map B)) := hown
  have H48 : Hid (∀ n ∈ l, n ≤ 48) := h48
  clear h hown h48
  go_enter Try.func30, Try.ntmps30
  go_wp2_with fail
  go_loopw [5, 10] (fun pv i wr => ∃ k : Nat, k ≤ l.length ∧ i = .int .i64 k ∧ wr.ownsRow w.heap.size 5 1 pv (Pr.headTo l k).length ((Pr.headTo l k).map B) ∧ Hid (Below w.heap.size w wr)) (fun _ i _ => l.length - (intOf i).toNat)
  case atStart => exact ⟨0, by omega, rfl, World.ownsRow_nil _ _ _ _, Below.refl _ _⟩
  case round =>
    obtain ⟨k, hk, rfl, hown, hbel⟩ := hrel
    obtain ⟨a5, c5, rfl⟩ := own_form hown
    have hhl := Pr.headTo_len l k
    by_cases hlt : k < l.length
    · obtain ⟨bk, o, rfl, hbk0, c0⟩ := (HI.out.below (Nat.le_refl _) hbel.out).getN k hlt
      have hn48 := Hf.getD_le H48.out k
      have HH : Hid (Pr.headTo l (k + 1) = if 0 < l.getD k 0 then Pr.headTo l k ++ [UInt8.ofNat k, UInt8.ofNat (l.getD k 0)] else Pr.headTo l k) := rfl
      generalize l.getD k 0 = n at *
      by_cases hn : 0 < n
      · have HH2 : Hid (Pr.headTo l (k + 1) = Pr.headTo l k ++ [UInt8.ofNat k, UInt8.ofNat n]) := by show _ = _; rw [HH.out, if_pos hn]
        have hk8 : IntKind.u8.wrap (k : Int) = (k : Int) := by simp only [IntKind.wrap, IntKind.bits, IntKind.signed]; simp; omega
        have hn8 : IntKind.u8.wrap (n : Int) = (n : Int) := by simp only [IntKind.wrap, IntKind.bits, IntKind.signed]; simp; omega
        have hbs := hbel.out.size
        generalize Pr.headTo l k = H at *
        clear HH
        go_wp2_with (at_builtin; refine wpList_append_own _ rfl (.tmp 17) (.tmp 22) 26 rfl w.heap.size 5 i0 (.int .u8 0) 1 1 Try.underlying26 hi hz0 hz1 hz2 rfl (by decide) _ _ _ rfl (hown.alloc _) ⟨wr.heap.size, 0, none⟩ 2 2 [.int .u8 (k : Int), .int .u8 (n : Int)] rfl rfl ?c1 ?c2 ?c3 ?c4 ?c5 ?_)
        case c1 => exact two_atp (by simp) (by simp)
        case c2 =>
          intro u hu
          simp at hu
          rcases hu with rfl | rfl <;> rfl
        case c3 => unfold maxLen; omega
        case c4 => omega
        case c5 => simp; omega
        intro v1 w3 hown3 hgrow _
        have HO : Hid (w3.ownsRow w.heap.size 5 1 v1 (Pr.headTo l (k + 1)).length ((Pr.headTo l (k + 1)).map B)) := by
          show w3.ownsRow _ _ _ _ _ _
          rw [HH2.out]
          have e1 : (UInt8.ofNat k).toNat = k := by rw [UInt8.toNat_ofNat']; omega
          have e2 : (UInt8.ofNat n).toNat = n := by rw [UInt8.toNat_ofNat']; omega
          simpa [B, e1, e2] using hown3
        have HB3 : Hid (Below w.heap.size w w3) := (hbel.out.alloc (by omega) _).grown hgrow (by simp; omega) fun j hj => (hown.lt j hj).1
        clear hown3 hgrow hown hbel c0
        go_wp2_with fail
        go_roundw
        case rel => exact ⟨k + 1, by omega, by go_num, HO.out, HB3⟩
        case measure => simp only [intOf]; omega
      · have HH2 : Hid (Pr.headTo l (k + 1) = Pr.headTo l k) := by show _ = _; rw [HH.out, if_neg hn]
        have HO : Hid (wr.ownsRow w.heap.size 5 1 (.slice a5 (Pr.headTo l k).length c5) (Pr.headTo l (k + 1)).length ((Pr.headTo l (k + 1)).map B)) := by rw [HH2.out]; exact hown
        clear HH hown
        generalize (Pr.headTo l k).length = z at *
        go_wp2_with fail
        go_roundw
        case rel => exact ⟨k + 1, by omega, by go_num, HO.out, hbel⟩
        case measure => simp only [intOf]; omega
    · obtain rfl : k = l.length := by omega
      have hhl := Pr.head_length l 0 l.length
      have hml := Pr.many_le l 0 l.length
      rw [← Pr.headTo_all] at hhl
      have HHA : Hid (Pr.headTo l l.length = Pr.headFrom l 0 l.length) := Pr.headTo_all l l.length
      generalize Pr.headTo l l.length = H at *
      have hq : ((H.length : Int)) / 2 = (Pr.manyFrom l 0 l.length : Nat) := by omega
      have hrow := row_below HV.out hbel.out
      have hwr := hbel.out.size
      have hn := anum_any base (.slice va xs.length vc) xs (Pr.manyFrom l 0 l.length) wr hrow (by omega) (by omega) (by omega)
      have HNA : Hid (∀ g, (Value.slice a5 H.length c5).ownBlock = some g → (Value.slice va xs.length vc).ownBlock ≠ some g) := by
        intro g hg e
        obtain ⟨_, _, h1⟩ := own_block hown hg
        obtain ⟨cur, h2, _⟩ := own_block HV.out e
        have := (Array.getElem?_eq_some_iff.1 h2).1
        omega
      have hpl : (Nm.put (Pr.manyFrom l 0 l.length)).length ≤ 9 := by
        have := Nm.dig_length_le (Pr.manyFrom l 0 l.length)
        unfold Nm.put
        simp only [List.length_cons]
        omega
      generalize hMM : Pr.manyFrom l 0 l.length = M at hhl hml hq hn hpl
      have HMM : Hid (Pr.manyFrom l 0 l.length = M) := hMM
      clear hrow hMM hhl
      go_wp2_with fail
      refine hn.mono ?_
      rintro e w5 ⟨v5, rfl, hrow5, hb5, hk5⟩
      have hown5 := own_kept hown hk5 HNA.out
      have hB5 : Below base w w5 := (hbel.out.mono hb).trans hb5
      have HB5 : Hid (Below base w w5) := hB5
      have hs5 := hB5.size
      have HL5 : Hid (xs ++ (Nm.put M ++ H) = (xs ++ Nm.put M) ++ H) := by show _ = _; rw [List.append_assoc]
      have hXl : (xs ++ Nm.put M).length ≤ 1000009 := by rw [List.length_append]; omega
      generalize xs ++ Nm.put M = X at *
      obtain ⟨b5, d5, rfl⟩ := own_form hrow5
      clear hn hb5 hk5 hB5 HNA hown hbel hpl
      rcases hown5.2 with ⟨hv, h0⟩ | ⟨g, cap, cur, hv, _⟩
      · have h00 : H = [] := List.length_eq_zero_iff.1 h0
        subst h00
        simp at hv
        obtain ⟨rfl, rfl⟩ := hv
        have HO : Hid (w5.ownsRow base 5 1 (.slice b5 X.length d5) (X ++ []).length ((X ++ []).map B)) := by rw [List.append_nil]; exact hrow5
        go_wp2_with (at_builtin; refine wpList_append_own_none rfl (.tmp 30) (.tmp 31) 26 rfl base 5 i0 1 Try.underlying26 hi _ _ _ rfl hrow5 rfl ?_)
        go_ret
        exact ⟨_, rfl, by rw [HMM.out, ← HHA.out, HL5.out]; exact HO.out, HB5.out⟩
      · simp at hv
        obtain ⟨rfl, rfl⟩ := hv
        have hcs := hown5.cells (g := g) rfl
        go_wp2_with (at_builtin; refine wpList_append_own _ rfl (.tmp 30) (.tmp 31) 26 rfl base 5 i0 (.int .u8 0) 1 1 Try.underlying26 hi hz0 hz1 hz2 rfl (by decide) _ _ _ rfl hrow5 ⟨g, 0, none⟩ H.length c5 (H.map B) rfl ?c0 ?c1 ?c2 ?c3 ?c4 ?c5 ?_)
        case c0 => simp
        case c1 => exact hcs
        case c2 =>
          intro u hu
          obtain ⟨b, _, rfl⟩ := List.mem_map.1 hu
          rfl
        case c3 => unfold maxLen; omega
        case c4 => omega
        case c5 => omega
        intro v1 w6 hown6 hgrow _
        have HO : Hid (w6.ownsRow base 5 1 v1 (X ++ H).length ((X ++ H).map B)) := by
          show w6.ownsRow _ _ _ _ _ _
          rw [List.length_append, List.map_append]
          exact hown6
        have HB6 : Hid (Below base w w6) := HB5.out.grown hgrow (by omega) fun j hj => (hrow5.lt j hj).1
        clear hown6 hgrow hrow5 hown5 hcs
        go_wp2_with fail
        go_ret
        exact ⟨_, rfl, by rw [HMM.out, ← HHA.out, HL5.out]; exact HO.out, HB6.out⟩
end Go.Proofs.Ytgdkfaphbbdnbaa

namespace Go.Proofs.Ytgdkfaphbbdnbaa
open Go.RowKit
set_option maxRecDepth 4000

/-- a writer of bits: its block, its bytes, how many bits are free -/
structure BW (W : World) (base Wb : Nat) (v : Value) (bs : List UInt8) (fr : Nat) : Prop where
  box : W.heap[Wb]? = some (.cells #[v, .int .i64 fr] 56 (0, 0))
  old : base ≤ Wb
  row : W.ownsRow base 5 1 v bs.length (bs.map B)
theorem BW.cells {W : World} {base Wb fr : Nat} {v : Value} {bs : List UInt8} (h : BW W base Wb v bs fr) : W.cell? ⟨Wb, 0, none⟩ = some v ∧ W.cell? ⟨Wb, 1, none⟩ = some (.int .i64 fr) ∧ W.frozen? ⟨Wb, 0, none⟩ = false ∧ W.frozen? ⟨Wb, 1, none⟩ = false ∧ Wb < W.heap.size := by
  refine ⟨?_, ?_, ?_, ?_, (Array.getElem?_eq_some_iff.1 h.box).1⟩
  · rw [cell_of_row _ Wb 0 _ _ _ h.box]; rfl
  · rw [cell_of_row _ Wb 1 _ _ _ h.box]; rfl
  · simp [World.frozen?, h.box]
  · simp [World.frozen?, h.box]
theorem BW.apart {W : World} {base Wb fr : Nat} {v : Value} {bs : List UInt8} (h : BW W base Wb v bs fr) : ∀ g, v.ownBlock = some g → g ≠ Wb := by
  intro g hg e
  subst e
  obtain ⟨cur, hc, _⟩ := own_block h.row hg
  have := hc.symm.trans h.box
  simp at this
theorem BW.below {W W' : World} {base Wb fr : Nat} {v : Value} {bs : List UInt8} (h : BW W base Wb v bs fr) (hb : Below W.heap.size W W') : BW W' base Wb v bs fr :=
  ⟨(hb.block _ (Array.getElem?_eq_some_iff.1 h.box).1).trans h.box, h.old, row_below h.row hb⟩
theorem BW.set1 {W : World} {base Wb fr : Nat} {v : Value} {bs : List UInt8} (h : BW W base Wb v bs fr) (q : Nat) : BW (W.setCell ⟨Wb, 1, none⟩ (.int .i64 (q : Int))) base Wb v bs q := by
  have hk : Kept (fun k => k ≠ Wb) W (W.setCell ⟨Wb, 1, none⟩ (.int .i64 (q : Int))) := (Kept.refl _ _).setCell (by simp) _
  refine ⟨?_, h.old, own_kept h.row hk h.apart⟩
  rw [heap_setCell_same _ _ _ _ _ _ h.box]
  rfl
/-- one byte more -/
theorem BW.more {W W1 : World} {base Wb fr : Nat} {v v1 : Value} {bs : List UInt8} {b : UInt8} {o : Obj} (h : BW W base Wb v bs fr) (hown : W1.ownsRow base 5 1 v1 (bs ++ [b]).length ((bs ++ [b]).map B)) (hg : (W.alloc o).grownBy W1 v.ownBlock) :
    BW (W1.setCell ⟨Wb, 0, none⟩ v1) base Wb v1 (bs ++ [b]) fr ∧ Below base W (W1.setCell ⟨Wb, 0, none⟩ v1) := by
  have hlt := (Array.getElem?_eq_some_iff.1 h.box).1
  have hbox : W1.heap[Wb]? = some (.cells #[v, .int .i64 fr] 56 (0, 0)) := by
    rw [hg.block Wb (by simp; omega) (fun e => h.apart Wb e.symm rfl)]
    exact (((Below.refl W.heap.size W).alloc (Nat.le_refl _) o)).block Wb hlt |>.trans h.box
  have hne : ∀ g, v1.ownBlock = some g → g ≠ Wb := by
    intro g hg e
    subst e
    obtain ⟨cur, hc, _⟩ := own_block hown hg
    have := hc.symm.trans hbox
    simp at this
  have hk2 : Kept (fun k => k ≠ Wb) W1 (W1.setCell ⟨Wb, 0, none⟩ v1) := (Kept.refl _ _).setCell (by simp) _
  have hk1 : Kept (fun k => v.ownBlock ≠ some k ∧ k ≠ Wb) W (W1.setCell ⟨Wb, 0, none⟩ v1) := (((Kept.refl _ W).alloc o).grown hg fun k hk hp => hp.1 hk).setCell (fun h => h.2 rfl) _
  have ho := h.old
  refine ⟨⟨?_, h.old, own_kept hown hk2 hne⟩, hk1.below (by omega) fun q hq => ⟨fun e => ?_, by omega⟩⟩
  · rw [heap_setCell_same _ _ _ _ _ _ hbox]
    rfl
  · obtain ⟨_, _, hb⟩ := own_block h.row e
    omega
/-- the last byte changed -/
theorem BW.last {W : World} {base Wb fr g n c : Nat} {bs : List UInt8} (h : BW W base Wb (.slice (some ⟨g, 0, none⟩) n c) bs fr) (k : Nat) (b : UInt8) : BW (W.setCell ⟨g, k, none⟩ (.int .u8 b.toNat)) base Wb (.slice (some ⟨g, 0, none⟩) n c) (bs.set k b) fr ∧ Below base W (W.setCell ⟨g, k, none⟩ (.int .u8 b.toNat)) := by
  have hn := own_form h.row
  obtain ⟨_, _, e⟩ := hn
  obtain rfl : n = bs.length := by simp at e; omega
  have hgW : g ≠ Wb := h.apart g rfl
  obtain ⟨cur, hc, hbg⟩ := own_block h.row (g := g) rfl
  refine ⟨⟨?_, h.old, ?_⟩, (Below.refl _ _).setCell hbg _⟩
  · exact (Below.heap_setCell _ _ _ _ (fun e => hgW e.symm)).trans h.box
  · have := (h.row.stored k (.int .u8 b.toNat)).1
    rw [List.length_set, List.map_set]
    exact this
theorem BW.last_cell {W : World} {base Wb fr g n c : Nat} {P : List UInt8} {y : UInt8} (h : BW W base Wb (.slice (some ⟨g, 0, none⟩) n c) (P ++ [y]) fr) : W.cell? ⟨g, P.length, none⟩ = some (.int .u8 y.toNat) ∧ W.frozen? ⟨g, P.length, none⟩ = false ∧ n = P.length + 1 := by
  obtain ⟨_, _, e⟩ := own_form h.row
  obtain rfl : n = (P ++ [y]).length := by simp at e; simp; omega
  have h1 := h.row.cellAt P.length (by simp)
  refine ⟨h1.trans ?_, h.row.frozenAt _, by simp⟩
  simp [B]
theorem BW.grown {W W1 : World} {base Wb fr : Nat} {v : Value} {bs : List UInt8} {o : Obj} (h : BW W base Wb v bs fr) (hg : (W.alloc o).grownBy W1 v.ownBlock) : W1.cell? ⟨Wb, 0, none⟩ = some v ∧ W1.cell? ⟨Wb, 1, none⟩ = some (.int .i64 fr) ∧ W1.frozen? ⟨Wb, 0, none⟩ = false ∧ W1.frozen? ⟨Wb, 1, none⟩ = false := by
  have hlt := (Array.getElem?_eq_some_iff.1 h.box).1
  have hbox : W1.heap[Wb]? = some (.cells #[v, .int .i64 fr] 56 (0, 0)) := by
    rw [hg.block Wb (by simp; omega) (fun e => h.apart Wb e.symm rfl)]
    exact (((Below.refl W.heap.size W).alloc (Nat.le_refl _) o)).block Wb hlt |>.trans h.box
  refine ⟨?_, ?_, ?_, ?_⟩
  · rw [cell_of_row _ Wb 0 _ _ _ hbox]; rfl
  · rw [cell_of_row _ Wb 1 _ _ _ hbox]; rfl
  · simp [World.frozen?, hbox]
  · simp [World.frozen?, hbox]
theorem u8_or_bit {y r s : Nat} (hr : r < 8) (hs : s < 2) (hy : y * 2 ^ (8 - r) < 256) : bits .or .u8 ((y * 2 ^ (8 - r) : Nat) : Int) ((s : Int) * 2 ^ (7 - r) % 256) = ((y * 2 ^ (8 - r) + s * 2 ^ (7 - r) : Nat) : Int) ∧ y * 2 ^ (8 - r) + s * 2 ^ (7 - r) < 256 := by
  have hp : 2 ^ (7 - r) ≤ 2 ^ 7 := Nat.pow_le_pow_right (by omega) (by omega)
  have h1 : s * 2 ^ (7 - r) < 256 := by
    have : s * 2 ^ (7 - r) ≤ 1 * 2 ^ 7 := Nat.mul_le_mul (by omega) hp
    omega
  have e : (s : Int) * 2 ^ (7 - r) % 256 = ((s * 2 ^ (7 - r) : Nat) : Int) := by
    have : ((s * 2 ^ (7 - r) : Nat) : Int) = (s : Int) * 2 ^ (7 - r) := by simp
    omega
  rw [e, u8_or_nat _ _ hy h1, Pr.or_bit hr hs]
  refine ⟨rfl, ?_⟩
  have := Nat.or_lt_two_pow (n := 8) hy h1
  rw [Pr.or_bit hr hs] at this
  exact this
theorem one_atp {W : World} {B : Nat} {x : Value} (h0 : W.cell? ⟨B, 0, none⟩ = some x) : ∀ j u, [x][j]? = some u → W.cell? ((⟨B, 0, none⟩ : Addr).add j) = some u := by
  intro j u hj
  rw [Addr.add_mid, Nat.zero_add]
  match j, hj with
  | 0, hj => rw [h0]; exact hj

set_option maxHeartbeats 4000000 in
theorem put_bits (base Wb : Nat) (v : Value) (hdr : List UInt8) (b : List Bool) (n m : Nat) (w : World) (h : BW w base Wb v (hdr ++ Pr.upB (Pr.bytes b)) (Pr.free b.length)) (hb : b.length ≤ 1048576) (hh : hdr.length ≤ 1048576) (hm : m ≤ 48) (hn : n ≤ 281474976710656) :
    Calls Try.prog 31 #[.pointer (some ⟨Wb, 0, none⟩), .int .i64 n, .int .i64 m] w fun e w' => e = .returned (.tuple #[]) ∧ (∃ v', BW w' base Wb v' (hdr ++ Pr.upB (Pr.bytes (b ++ Pr.wd n m))) (Pr.free (b.length + m))) ∧ Below base w w' := by
  obtain ⟨i0, hi, hz0, hz1, hz2⟩ := info_parts info_u8
  have HW : Hid (BW w base Wb v (hdr ++ Pr.upB (Pr.bytes b)) (Pr.free b.length)) := h
  clear h
  go_enter Try.func31, Try.ntmps31
  go_wp2_with fail
  go_loopw [6] (fun i wr => ∃ (j : Nat) (u : Value), j ≤ m ∧ i = .int .i64 ((m : Int) - 1 - j) ∧ Hid (BW wr base Wb u (hdr ++ Pr.upB (Pr.bytes (b ++ (Pr.wd n m).take j))) (Pr.free (b.length + j))) ∧ Hid (Below base w wr)) (fun i _ => (intOf i + 1).toNat)
  case atStart => exact ⟨0, v, by omega, by simp, by rw [List.take_zero, List.append_nil]; exact HW, Below.refl _ _⟩
  case round =>
    obtain ⟨j, u, hj, rfl, hbw, hbel⟩ := hrel
    by_cases hlt : j < m
    · obtain ⟨k, hk⟩ : ∃ k, m = j + k + 1 := ⟨m - j - 1, by omega⟩
      have hki : (m : Int) - 1 - j = (k : Int) := by omega
      obtain ⟨P, y, hP, hpre, hy, hpost⟩ := Pr.bytes_step (b ++ (Pr.wd n m).take j) (decide (n / 2 ^ k % 2 = 1))
      have hwl : ((Pr.wd n m).take j).length = j := by rw [List.length_take, Pr.wd_length]; omega
      have hLb : (b ++ (Pr.wd n m).take j).length = b.length + j := by rw [List.length_append, hwl]
      rw [hLb] at hP hpre hy hpost
      have hnext : b ++ (Pr.wd n m).take (j + 1) = b ++ (Pr.wd n m).take j ++ [decide (n / 2 ^ k % 2 = 1)] := by
        rw [List.take_add_one, Pr.wd_get hlt, show m - 1 - j = k by omega, List.append_assoc]
        rfl
      rw [← hnext] at hpost
      generalize b ++ (Pr.wd n m).take j = Bj at *
      obtain ⟨Bj1, hBj⟩ : ∃ Bj1, b ++ (Pr.wd n m).take (j + 1) = Bj1 := ⟨_, rfl⟩
      have HBJ : Hid (b ++ (Pr.wd n m).take (j + 1) = Bj1) := hBj
      rw [hBj] at hpost hnext
      clear hBj
      obtain ⟨r, hr⟩ : ∃ r, (b.length + j) % 8 = r := ⟨_, rfl⟩
      have hr8 : r < 8 := by omega
      rw [hr] at hpre hy hpost
      have hfr : Pr.free (b.length + j) = (8 - r) % 8 := by unfold Pr.free; rw [hr]
      have HFN : Hid (Pr.free (b.length + (j + 1)) = 7 - r) := by show _ = _; unfold Pr.free; omega
      rw [hfr] at hbw
      have HK : Hid (m = j + k + 1) := hk
      have HY : Hid (y * 2 ^ (8 - r) < 256) := by
        show _ < _
        have h1 : y * 2 ^ (8 - r) < 2 ^ r * 2 ^ (8 - r) := Nat.mul_lt_mul_of_pos_right hy (Nat.two_pow_pos _)
        rw [← Nat.pow_add, show r + (8 - r) = 8 by omega] at h1
        exact h1
      obtain ⟨c0, c1, f0, f1, hWb⟩ := hbw.out.cells
      obtain ⟨ua, uc, hu⟩ := own_form hbw.out.row
      subst hu
      have hzl : (hdr ++ Pr.upB (Pr.bytes Bj)).length ≤ 2000000 := by
        rw [List.length_append, upB_length, Pr.bytes_length, hLb]
        omega
      have HPO : Hid (Pr.bytes Bj1 = P ++ [y * 2 ^ (8 - r) + (if decide (n / 2 ^ k % 2 = 1) = true then 2 ^ (7 - r) else 0)]) := hpost
      clear hk hpost hy hP hLb hwl hnext hfr
      by_cases hr0 : r = 0
      · rw [if_pos hr0] at hpre
        have hrow := hbw.out.row
        have h00 : (8 - r) % 8 = 0 := by omega
        have HR0 : Hid (r = 0) := hr0
        rw [h00] at c1 hbw
        have hbs := hbw.out.old
        have HZ : Hid ((hdr ++ Pr.upB (Pr.bytes Bj)) ++ [0] = (hdr ++ Pr.upB P) ++ [UInt8.ofNat (y * 2 ^ (8 - r))]) := by
          show _ = _
          rw [List.append_assoc, List.append_assoc, ← up_more, ← hpre, up_more]
          rfl
        have hQl : (hdr ++ Pr.upB P).length ≤ 2000000 := by
          have := congrArg List.length HZ.out
          simp only [List.length_append, List.length_cons, List.length_nil] at this hzl ⊢
          omega
        generalize hdr ++ Pr.upB (Pr.bytes Bj) = Z at *
        clear h00 hpre hr0
        go_wp2_with (at_builtin; refine wpList_append_own _ rfl (.tmp 22) (.tmp 23) 26 rfl base 5 i0 (.int .u8 0) 1 1 Try.underlying26 hi hz0 hz1 hz2 rfl (by decide) _ _ _ rfl (hrow.alloc _) ⟨wr.heap.size, 0, none⟩ 1 1 [.int .u8 0] rfl rfl ?c1 ?c2 ?c3 ?c4 ?c5 ?_)
        case c1 => exact one_atp (by simp)
        case c2 => intro u hu; simp at hu; subst hu; rfl
        case c3 => unfold maxLen; omega
        case c4 => omega
        case c5 => simp; omega
        intro v1 w3 hown3 hgrow _
        obtain ⟨va, vc, rfl⟩ := own_form hown3
        obtain ⟨X1, X2⟩ := hbw.out.more (b := 0) (own_byte hown3) hgrow
        obtain ⟨q1, q2, q3, q4⟩ := hbw.out.grown hgrow
        obtain ⟨W7, hW7⟩ : ∃ W7, W7 = ((w3.setCell ⟨Wb, 0, none⟩ (.slice va (Z.length + 1) vc)).setCell ⟨Wb, 1, none⟩ (.int .i64 8)).setCell ⟨Wb, 1, none⟩ (.int .i64 7) := ⟨_, rfl⟩
        have hW7b : BW W7 base Wb (.slice va (Z.length + 1) vc) ((hdr ++ Pr.upB P) ++ [UInt8.ofNat (y * 2 ^ (8 - r))]) (7 - r) := by
          rw [hW7, ← HZ.out, HR0.out]
          exact (X1.set1 8).set1 7
        have hB7 : Below base w W7 := by
          rw [hW7]
          exact (((hbel.out.trans X2).setCell hbs _).setCell hbs _)
        clear hown3 hgrow X1 X2 hrow hbw hbel c0 c1 f0 f1 HZ
        go_wp2_with fail
        rw [← hW7]
        clear hW7 q1 q2 q3 q4
        obtain ⟨Q, hQ⟩ : ∃ Q, hdr ++ Pr.upB P = Q := ⟨_, rfl⟩
        rw [hQ] at hW7b hQl
        have HQ : Hid (hdr ++ Pr.upB P = Q) := hQ
        clear hQ
        generalize Z.length + 1 = nn at *
        have HB7 : Hid (Below base w W7) := hB7
        obtain ⟨g, rfl⟩ : ∃ g, va = some ⟨g, 0, none⟩ := by
          rcases hW7b.row.2 with ⟨_, h0⟩ | ⟨g, cap, cur, e, _⟩
          · simp at h0
          · simp at e; exact ⟨g, e.1⟩
        obtain ⟨e0, g0, hnn⟩ := hW7b.last_cell
        obtain ⟨d0, d1, _, _, _⟩ := hW7b.cells
        have hs2 : n / 2 ^ k % 2 < 2 := Nat.mod_lt _ (by omega)
        have hbit := i64_and_one (n / 2 ^ k) (by have := Nat.div_le_self n (2 ^ k); omega)
        rw [show ((n / 2 ^ k : Nat) : Int) = (n : Int) / 2 ^ k by simp] at hbit
        have hY : (UInt8.ofNat (y * 2 ^ (8 - r))).toNat = y * 2 ^ (8 - r) := by rw [UInt8.toNat_ofNat', Nat.mod_eq_of_lt HY.out]
        rw [hY] at e0
        have hY256 : y * 2 ^ (8 - r) < 256 := HY.out
        have HOR := u8_or_bit (y := y) hr8 hs2 HY.out
        have HFIN : Hid (BW ((W7.setCell ⟨g, Q.length, none⟩ (.int .u8 (bits .or .u8 ((y * 2 ^ (8 - r) : Nat) : Int) (((n / 2 ^ k % 2 : Nat) : Int) * 2 ^ (7 - r) % 256)))).drew) base Wb (.slice (some ⟨g, 0, none⟩) nn vc) (hdr ++ Pr.upB (Pr.bytes Bj1)) (Pr.free (b.length + (j + 1))) ∧
            Below base w ((W7.setCell ⟨g, Q.length, none⟩ (.int .u8 (bits .or .u8 ((y * 2 ^ (8 - r) : Nat) : Int) (((n / 2 ^ k % 2 : Nat) : Int) * 2 ^ (7 - r) % 256)))).drew)) := by
          have hZ : (UInt8.ofNat (y * 2 ^ (8 - r) + n / 2 ^ k % 2 * 2 ^ (7 - r))).toNat = y * 2 ^ (8 - r) + n / 2 ^ k % 2 * 2 ^ (7 - r) := by rw [UInt8.toNat_ofNat', Nat.mod_eq_of_lt HOR.2]
          obtain ⟨x1, x2⟩ := hW7b.last Q.length (UInt8.ofNat (y * 2 ^ (8 - r) + n / 2 ^ k % 2 * 2 ^ (7 - r)))
          rw [hZ] at x1 x2
          rw [HOR.1, HFN.out, HPO.out, up_more, ← List.append_assoc, HQ.out]
          have e : (if decide (n / 2 ^ k % 2 = 1) = true then 2 ^ (7 - r) else 0) = n / 2 ^ k % 2 * 2 ^ (7 - r) := by
            by_cases h1 : n / 2 ^ k % 2 = 1
            · rw [h1]; simp
            · rw [show n / 2 ^ k % 2 = 0 by omega]; simp
          rw [e]
          have es : (Q ++ [UInt8.ofNat (y * 2 ^ (8 - r))]).set Q.length (UInt8.ofNat (y * 2 ^ (8 - r) + n / 2 ^ k % 2 * 2 ^ (7 - r))) = Q ++ [UInt8.ofNat (y * 2 ^ (8 - r) + n / 2 ^ k % 2 * 2 ^ (7 - r))] := by
            rw [List.set_append_right _ _ (Nat.le_refl _), Nat.sub_self]
            rfl
          rw [es] at x1
          exact ⟨⟨x1.box, x1.old, x1.row.drew⟩, (HB7.out.trans x2).drew⟩
        obtain ⟨qq, hqq⟩ : ∃ qq, Q.length = qq := ⟨_, rfl⟩
        rw [hqq] at e0 g0 hnn HFIN
        have hidx : (nn : Int) - 1 = (qq : Int) := by omega
        have hqn : qq < nn := by omega
        generalize y * 2 ^ (8 - r) = Y at *
        have d1' : W7.cell? ⟨Wb, 1, none⟩ = some (.int .i64 ((7 : Int) - r)) := d1.trans (by rw [show ((7 - r : Nat) : Int) = (7 : Int) - r by omega])
        generalize n / 2 ^ k % 2 = s at *
        have hnn' : nn ≤ 3000000 := by omega
        clear hW7b hB7 hqq hnn hY d1 HOR HPO
        go_region
        all_goals go_wp2_with fail
        all_goals exact ⟨⟨j + 1, _, by omega, int_eq (by omega), by rw [HBJ.out]; exact HFIN.out.1, HFIN.out.2⟩, by simp only [intOf]; omega⟩
      · rw [if_neg hr0] at hpre
        have HZ : Hid ((hdr ++ Pr.upB (Pr.bytes Bj)) = (hdr ++ Pr.upB P) ++ [UInt8.ofNat (y * 2 ^ (8 - r))]) := by
          show _ = _
          rw [List.append_assoc, ← up_more, ← hpre]
        have hQl : (hdr ++ Pr.upB P).length ≤ 2000000 := by
          have := congrArg List.length HZ.out
          simp only [List.length_append, List.length_cons, List.length_nil] at this hzl ⊢
          omega
        have h00 : (((8 - r) % 8 : Nat) : Int) = (8 : Int) - r := by omega
        rw [h00] at c1
        have hne : (((8 : Int) - r) == 0) = false := by rw [beq_eq_false_iff_ne]; omega
        have hbs := hbw.out.old
        obtain ⟨W7, hW7⟩ : ∃ W7, W7 = wr.setCell ⟨Wb, 1, none⟩ (.int .i64 ((8 : Int) - r - 1)) := ⟨_, rfl⟩
        have hW7b : BW W7 base Wb (.slice ua (hdr ++ Pr.upB (Pr.bytes Bj)).length uc) ((hdr ++ Pr.upB P) ++ [UInt8.ofNat (y * 2 ^ (8 - r))]) (7 - r) := by
          rw [hW7, ← HZ.out, show (8 : Int) - r - 1 = ((7 - r : Nat) : Int) by omega]
          exact hbw.out.set1 (7 - r)
        have hB7 : Below base w W7 := by
          rw [hW7]
          exact hbel.out.setCell hbs _
        generalize hdr ++ Pr.upB (Pr.bytes Bj) = Z at *
        clear hpre hbw hbel h00 HZ
        go_wp2_with fail
        rw [← hW7]
        clear hW7 c0 c1 f0 f1
        obtain ⟨Q, hQ⟩ : ∃ Q, hdr ++ Pr.upB P = Q := ⟨_, rfl⟩
        rw [hQ] at hW7b hQl
        have HQ : Hid (hdr ++ Pr.upB P = Q) := hQ
        clear hQ
        generalize Z.length = nn at *
        have HB7 : Hid (Below base w W7) := hB7
        obtain ⟨g, rfl⟩ : ∃ g, ua = some ⟨g, 0, none⟩ := by
          rcases hW7b.row.2 with ⟨_, h0⟩ | ⟨g, cap, cur, e, _⟩
          · simp at h0
          · simp at e; exact ⟨g, e.1⟩
        obtain ⟨e0, g0, hnn⟩ := hW7b.last_cell
        obtain ⟨d0, d1, _, _, _⟩ := hW7b.cells
        have hs2 : n / 2 ^ k % 2 < 2 := Nat.mod_lt _ (by omega)
        have hbit := i64_and_one (n / 2 ^ k) (by have := Nat.div_le_self n (2 ^ k); omega)
        rw [show ((n / 2 ^ k : Nat) : Int) = (n : Int) / 2 ^ k by simp] at hbit
        have hY : (UInt8.ofNat (y * 2 ^ (8 - r))).toNat = y * 2 ^ (8 - r) := by rw [UInt8.toNat_ofNat', Nat.mod_eq_of_lt HY.out]
        rw [hY] at e0
        have hY256 : y * 2 ^ (8 - r) < 256 := HY.out
        have HOR := u8_or_bit (y := y) hr8 hs2 HY.out
        have HFIN : Hid (BW ((W7.setCell ⟨g, Q.length, none⟩ (.int .u8 (bits .or .u8 ((y * 2 ^ (8 - r) : Nat) : Int) (((n / 2 ^ k % 2 : Nat) : Int) * 2 ^ (7 - r) % 256)))).drew) base Wb (.slice (some ⟨g, 0, none⟩) nn uc) (hdr ++ Pr.upB (Pr.bytes Bj1)) (Pr.free (b.length + (j + 1))) ∧
            Below base w ((W7.setCell ⟨g, Q.length, none⟩ (.int .u8 (bits .or .u8 ((y * 2 ^ (8 - r) : Nat) : Int) (((n / 2 ^ k % 2 : Nat) : Int) * 2 ^ (7 - r) % 256)))).drew)) := by
          have hZ : (UInt8.ofNat (y * 2 ^ (8 - r) + n / 2 ^ k % 2 * 2 ^ (7 - r))).toNat = y * 2 ^ (8 - r) + n / 2 ^ k % 2 * 2 ^ (7 - r) := by rw [UInt8.toNat_ofNat', Nat.mod_eq_of_lt HOR.2]
          obtain ⟨x1, x2⟩ := hW7b.last Q.length (UInt8.ofNat (y * 2 ^ (8 - r) + n / 2 ^ k % 2 * 2 ^ (7 - r)))
          rw [hZ] at x1 x2
          rw [HOR.1, HFN.out, HPO.out, up_more, ← List.append_assoc, HQ.out]
          have e : (if decide (n / 2 ^ k % 2 = 1) = true then 2 ^ (7 - r) else 0) = n / 2 ^ k % 2 * 2 ^ (7 - r) := by
            by_cases h1 : n / 2 ^ k % 2 = 1
            · rw [h1]; simp
            · rw [show n / 2 ^ k % 2 = 0 by omega]; simp
          rw [e]
          have es : (Q ++ [UInt8.ofNat (y * 2 ^ (8 - r))]).set Q.length (UInt8.ofNat (y * 2 ^ (8 - r) + n / 2 ^ k % 2 * 2 ^ (7 - r))) = Q ++ [UInt8.ofNat (y * 2 ^ (8 - r) + n / 2 ^ k % 2 * 2 ^ (7 - r))] := by
            rw [List.set_append_right _ _ (Nat.le_refl _), Nat.sub_self]
            rfl
          rw [es] at x1
          exact ⟨⟨x1.box, x1.old, x1.row.drew⟩, (HB7.out.trans x2).drew⟩
        obtain ⟨qq, hqq⟩ : ∃ qq, Q.length = qq := ⟨_, rfl⟩
        rw [hqq] at e0 g0 hnn HFIN
        have hidx : (nn : Int) - 1 = (qq : Int) := by omega
        have hqn : qq < nn := by omega
        generalize y * 2 ^ (8 - r) = Y at *
        have d1' : W7.cell? ⟨Wb, 1, none⟩ = some (.int .i64 ((7 : Int) - r)) := d1.trans (by rw [show ((7 - r : Nat) : Int) = (7 : Int) - r by omega])
        generalize n / 2 ^ k % 2 = s at *
        have hnn' : nn ≤ 3000000 := by omega
        clear hW7b hB7 hqq hnn hY d1 HOR HPO
        go_region
        all_goals go_wp2_with fail
        all_goals exact ⟨⟨j + 1, _, by omega, int_eq (by omega), by rw [HBJ.out]; exact HFIN.out.1, HFIN.out.2⟩, by simp only [intOf]; omega⟩
    · obtain rfl : j = m := by omega
      have HF : Hid (BW wr base Wb u (hdr ++ Pr.upB (Pr.bytes (b ++ Pr.wd n j))) (Pr.free (b.length + j))) := by
        have := hbw.out
        rw [List.take_of_length_le (by rw [Pr.wd_length]; exact Nat.le_refl _)] at this
        exact this
      go_wp2_with fail
      go_end0
      exact ⟨rfl, ⟨_, HF.out⟩, hbel.out⟩
end Go.Proofs.Ytgdkfaphbbdnbaa

namespace Go.Proofs.Ytgdkfaphbbdnbaa
open Go.RowKit
set_option maxRecDepth 4000

namespace Pr
theorem chk_greedy {L : Bs} (h : L.length ≤ 4096) : Lz.chk (Lz.greedyR L) = 0 := by
  have hm := Lz.makes_greedy L
  have hl := Lz.makes_length L (Lz.greedy L) 0 hm
  have hg := hm.good
  unfold Lz.chk Lz.greedyR
  rw [if_neg (by rw [List.length_map]; omega), if_pos]
  intro t ht
  obtain ⟨u, hu, rfl⟩ := List.mem_map.1 ht
  exact (hg u hu).form
theorem pack_greedy {L : Bs} (h : L.length ≤ 4096) : Lz.packd (Lz.greedyR L) = T L ∧ (Lz.greedyR L).length ≤ 4096 := by
  have hm := Lz.makes_greedy L
  have hl := Lz.makes_length L (Lz.greedy L) 0 hm
  have hc := chk_greedy h
  refine ⟨?_, by unfold Lz.greedyR; rw [List.length_map]; omega⟩
  unfold Lz.packd T
  rw [if_pos hc]
  congr 1
  unfold Lz.greedyR
  rw [List.map_map]
  conv => rhs; rw [← List.map_id (Lz.greedy L)]
  exact List.map_congr_left fun t _ => Lz.raw_tok t
theorem words_le {l : List Nat} (h : ∀ i, l.getD i 0 ≤ 48) (t : List Nat) : (words l t).length ≤ 48 * t.length := by
  induction t with
  | nil => exact Nat.le_refl _
  | cons i t ih =>
    have := h i
    rw [words_cons, List.length_append, W_length, List.length_cons]
    omega
theorem put_len (n : Nat) : (Nm.put n).length ≤ 9 := by
  have := Nm.dig_length_le n
  unfold Nm.put
  simp only [List.length_cons]
  omega
/-- what stands ahead of the bits -/
def hdr (s : Bs) (wide : List Nat) : Bs := [1] ++ Nm.put s.length ++ Nm.put (T s).length ++ (Nm.put (manyFrom wide 0 256) ++ headFrom wide 0 256)
theorem cod_hdr (s : Bs) (wide : List Nat) : cod s wide = hdr s wide ++ upB (bytes (words wide (dnB (T s)))) := by
  unfold cod hdr
  simp only [List.append_assoc, List.cons_append, List.nil_append]
end Pr

set_option maxHeartbeats 4000000 in
theorem coded_any (s : ByteArray) (w : World) (hs : s.size ≤ 4096) :
    Calls Try.prog 11 #[.string s] w fun e w' => ∃ (wide : List Nat) (s' : ByteArray), e = .returned (.string s') ∧ s'.data.toList = Pr.cod s.data.toList wide ∧ Hf.HL (Pr.tally (Pr.T s.data.toList)) wide ∧ Below w.heap.size w w' := by
  obtain ⟨i0, hi, hz0, hz1, hz2⟩ := info_parts info_u8
  have hsl : s.data.toList.length ≤ 4096 := by rw [← Lib.size_eq]; exact hs
  obtain ⟨hpk, hgl⟩ := Pr.pack_greedy hsl
  have hTl := Pr.T_le s.data.toList
  have h1 := greedy_any s w hs
  go_enter Try.func11, Try.ntmps11
  go_wp2_with fail
  refine h1.mono ?_
  rintro e w1 ⟨v1, rfl, hr1, hb1⟩
  clear h1
  have h2 := pack_any v1 (Lz.greedyR s.data.toList) w1 (Toks.of_own hr1) (by omega)
  rw [hpk] at h2
  obtain ⟨Tk, hTk⟩ : ∃ Tk : ByteArray, Tk = ⟨(Pr.T s.data.toList).toArray⟩ := ⟨_, rfl⟩
  rw [← hTk] at h2
  have HT : Hid (Tk.data.toList = Pr.T s.data.toList) := by rw [hTk]; exact rfl
  have hTz : Tk.size ≤ 12288 := by rw [Lib.size_eq, HT.out]; omega
  have HB1 : Hid (Below w.heap.size w w1) := hb1
  generalize Lz.chk (Lz.greedyR s.data.toList) = q2 at *
  clear hTk hpk hr1 hb1 hTl hgl
  go_wp2_with fail
  refine h2.mono ?_
  rintro e w2 ⟨rfl, hb2⟩
  have HB2 : Hid (Below w.heap.size w w2) := HB1.out.trans (hb2.mono HB1.out.size)
  clear h2 hb2 HB1
  have h3 := tally_any Tk w2 (by omega)
  go_wp2_with fail
  refine h3.mono ?_
  rintro e w3 ⟨v3, rfl, hr3, hb3⟩
  clear h3
  rw [HT.out] at hr3
  have HB3 : Hid (Below w.heap.size w w3) := HB2.out.trans (hb3.mono HB2.out.size)
  have hF2 : (Pr.tally (Pr.T s.data.toList)).length = 256 := Pr.tally_length _
  have HF3 : Hid (∀ n ∈ Pr.tally (Pr.T s.data.toList), n ≤ 1048576) := fun n hn => by
    have := Pr.tally_le _ n hn
    have h2 : (Pr.T s.data.toList).length = Tk.size := by rw [← HT.out, ← Lib.size_eq]
    omega
  have HTH : Hid (∀ b ∈ Pr.T s.data.toList, 0 < (Pr.tally (Pr.T s.data.toList)).getD b.toNat 0) := fun b hb => Pr.tally_there hb
  have h4 := lengths_any v3 (Pr.tally (Pr.T s.data.toList)) w3 (Ints.of_own (base := w2.heap.size) (by rw [Hf.up_length, hF2]; exact hr3)) (by omega) (by omega) HF3.out
  clear hb3 HB2 hr3
  go_wp2_with fail
  refine h4.mono ?_
  rintro e w4 ⟨v4, wide, rfl, HHL, hr4, hb4⟩
  clear h4
  have hw256 : wide.length = 256 := by rw [HHL.len]; exact hF2
  have hg := Pr.good_of HHL (by omega) HF3.out
  have h48 := HHL.le48 (by omega) HF3.out
  have HG : Hid (Pr.Good wide) := hg
  have HHL' : Hid (Hf.HL (Pr.tally (Pr.T s.data.toList)) wide) := HHL
  have HTW : Hid (∀ b ∈ Pr.T s.data.toList, 0 < wide.getD b.toNat 0) := fun b hb => (HHL.there (by omega) HF3.out _).1 (HTH.out b hb)
  rw [hF2] at hr4
  have HW : Hid (wide.length = 256) := hw256
  have hi4 : Ints w4 v4 (Hf.up wide) := Ints.of_own (base := w3.heap.size) (by rw [Hf.up_length, hw256]; exact hr4)
  have h5 := codes_any v4 wide w4 hi4 (by omega) (by omega) h48 hg.sum
  rw [hw256] at h5
  have HB4 : Hid (Below w.heap.size w w4) := HB3.out.trans (hb4.mono HB3.out.size)
  obtain ⟨g4, c4, rfl⟩ : ∃ g4 c4, v4 = .slice (some ⟨g4, 0, none⟩) 256 c4 := by
    rcases hr4.2 with ⟨_, h0⟩ | ⟨g, cap, _, hv, _⟩
    · omega
    · exact ⟨g, cap, hv⟩
  have H48 : Hid (∀ n ∈ wide, n ≤ 48) := h48
  have HR4 : Hid (w4.ownsRow w3.heap.size 3 1 (.slice (some ⟨g4, 0, none⟩) 256 c4) 256 ((Hf.up wide).map Iv)) := hr4
  clear HHL hg h48 hF2 HF3 HTH hi4 hb4 HB3 hr4
  clear hw256
  go_wp2_with fail
  refine h5.mono ?_
  rintro e w5 ⟨v5, rfl, hr5, hb5⟩
  clear h5
  obtain ⟨g5, c5, rfl⟩ : ∃ g5 c5, v5 = .slice (some ⟨g5, 0, none⟩) 256 c5 := by
    rcases hr5.2 with ⟨_, h0⟩ | ⟨g, cap, _, hv, _⟩
    · omega
    · exact ⟨g, cap, hv⟩
  have HB5 : Hid (Below w.heap.size w w5) := HB4.out.trans (hb5.mono HB4.out.size)
  have HR5 : Hid (w5.ownsRow w4.heap.size 3 1 (.slice (some ⟨g5, 0, none⟩) 256 c5) 256 ((Hf.codes wide).map Iv)) := hr5
  have HR45 : Hid (w5.ownsRow w3.heap.size 3 1 (.slice (some ⟨g4, 0, none⟩) 256 c4) 256 ((Hf.up wide).map Iv)) := row_below HR4.out hb5
  clear HR4 HB4 hr5 hb5
  have hone := owns_one w5 1 (by omega) (by omega)
  obtain ⟨W6, hW6⟩ : ∃ W6, W6 = w5.alloc (.cells #[.int .u8 1] 5) := ⟨_, rfl⟩
  rw [← hW6] at hone
  have hb6 : Below w5.heap.size w5 W6 := by rw [hW6]; exact (Below.refl _ w5).alloc (Nat.le_refl _) _
  have HB6 : Hid (Below w5.heap.size w5 W6) := hb6
  have hs6 := hb6.size
  have e1 : [UInt8.ofNat (1 : Int).toNat] = [(1 : UInt8)] := rfl
  rw [e1] at hone
  have h6 := anum_any w5.heap.size (.slice (some ⟨w5.heap.size, 0, none⟩) 1 1) [1] s.size W6 hone hs6 (by simp) (by omega)
  rw [hW6] at h6
  clear hone hb6 e1
  go_wp2_with fail
  refine h6.mono ?_
  rw [← hW6]
  rintro e w7 ⟨v7, rfl, hr7, hb7, _⟩
  clear h6 hW6
  have hX7 : ([1] ++ Nm.put s.size).length ≤ 10 := by have := Pr.put_len s.size; simp only [List.length_append, List.length_cons, List.length_nil]; omega
  have HB7 : Hid (Below w5.heap.size w5 w7) := HB6.out.trans hb7
  have hs7 := HB7.out.size
  have h7 := anum_any w5.heap.size v7 ([1] ++ Nm.put s.size) Tk.size w7 hr7 hs7 (by omega) (by omega)
  clear hr7 hb7 HB6
  go_wp2_with fail
  refine h7.mono ?_
  rintro e w8 ⟨v8, rfl, hr8, hb8, _⟩
  clear h7
  have hX8 : ([1] ++ Nm.put s.size ++ Nm.put Tk.size).length ≤ 19 := by have := Pr.put_len Tk.size; rw [List.length_append]; omega
  have HB8 : Hid (Below w5.heap.size w5 w8) := HB7.out.trans hb8
  have hs8 := HB8.out.size
  have hr48 := own_kept HR45.out (Kept.of_below_at (p := fun k => k < w5.heap.size) HB8.out fun _ h => h) fun g hg => by
    obtain ⟨cur, hc, _⟩ := own_block HR45.out hg
    exact (Array.getElem?_eq_some_iff.1 hc).1
  have h8 := alens_any w5.heap.size v8 (.slice (some ⟨g4, 0, none⟩) 256 c4) ([1] ++ Nm.put s.size ++ Nm.put Tk.size) wide w8 hr8 hs8 (by omega) (Ints.of_own (base := w3.heap.size) (by rw [Hf.up_length, HW.out]; exact hr48)) (by rw [HW.out]; omega) H48.out
  rw [HW.out] at h8
  clear hr8 hb8 HB7 hr48
  go_wp2_with fail
  refine h8.mono ?_
  rintro e w9 ⟨v9, rfl, hr9, hb9⟩
  clear h8
  have HB9 : Hid (Below w5.heap.size w5 w9) := HB8.out.trans hb9
  have hs9 := HB9.out.size
  have hHD : [1] ++ Nm.put s.size ++ Nm.put Tk.size ++ (Nm.put (Pr.manyFrom wide 0 256) ++ Pr.headFrom wide 0 256) = Pr.hdr s.data.toList wide := by
    unfold Pr.hdr
    rw [← HT.out, ← Lib.size_eq, ← Lib.size_eq]
  rw [hHD] at hr9
  have HCD : Hid (Pr.cod s.data.toList wide = Pr.hdr s.data.toList wide ++ Pr.upB (Pr.bytes (Pr.words wide (Pr.dnB Tk.data.toList)))) := by show _ = _; rw [Pr.cod_hdr, HT.out]
  have hHl : (Pr.hdr s.data.toList wide).length ≤ 1000 := by
    have h1 := Pr.put_len (Pr.manyFrom wide 0 256)
    have h2 := Pr.head_length wide 0 256
    have h3 := Pr.many_le wide 0 256
    have h4 : (Nm.put (Pr.manyFrom wide 0 256) ++ Pr.headFrom wide 0 256).length = (Nm.put (Pr.manyFrom wide 0 256)).length + (Pr.headFrom wide 0 256).length := List.length_append
    rw [← hHD, List.length_append, h4]
    omega
  generalize Pr.hdr s.data.toList wide = HDR at *
  obtain ⟨a9, c9, rfl⟩ := own_form hr9
  have HTW' : Hid (∀ b ∈ Tk.data.toList, 0 < wide.getD b.toNat 0) := by rw [HT.out]; exact HTW
  obtain ⟨W10, hW10⟩ : ∃ W10, W10 = w9.alloc (.cells #[.slice a9 HDR.length c9, .int .i64 0] 56) := ⟨_, rfl⟩
  have hb10 : Below w9.heap.size w9 W10 := by rw [hW10]; exact (Below.refl _ w9).alloc (Nat.le_refl _) _
  have HW10 : Hid (BW W10 w5.heap.size w9.heap.size (.slice a9 HDR.length c9) (HDR ++ Pr.upB (Pr.bytes (Pr.words wide ((Pr.dnB Tk.data.toList).take 0)))) (Pr.free (Pr.words wide ((Pr.dnB Tk.data.toList).take 0)).length)) := by
    have e0 : Pr.words wide ((Pr.dnB Tk.data.toList).take 0) = [] := by rw [List.take_zero]; rfl
    have e1 : Pr.upB (Pr.bytes []) = [] := rfl
    have e2 : Pr.free ([] : List Bool).length = 0 := rfl
    rw [e0, e1, e2, List.append_nil]
    exact ⟨by rw [hW10]; exact heap_alloc_new w9 _, hs9, row_below hr9 hb10⟩
  have HB10 : Hid (Below w5.heap.size w5 W10) := HB9.out.trans (hb10.mono hs9)
  clear hb9 HB8 hr9 hb10 hHD HTW HB9
  go_wp2_with fail
  rw [← hW10]
  clear hW10
  go_loopw [52] (fun i wr => ∃ (k : Nat) (u : Value), k ≤ Tk.size ∧ i = .int .i64 k ∧ Hid (BW wr w5.heap.size w9.heap.size u (HDR ++ Pr.upB (Pr.bytes (Pr.words wide ((Pr.dnB Tk.data.toList).take k)))) (Pr.free (Pr.words wide ((Pr.dnB Tk.data.toList).take k)).length)) ∧ Hid (Below w5.heap.size w5 wr)) (fun i _ => Tk.size - (intOf i).toNat)
  case atStart => exact ⟨0, _, by omega, rfl, HW10, HB10⟩
  case round =>
    obtain ⟨k, u, hk, rfl, hbw, hbel⟩ := hrel
    by_cases hlt : k < Tk.size
    · have hb256 := Tk[k].toNat_lt
      have hr4 := own_kept HR45.out (Kept.of_below_at (p := fun k => k < w5.heap.size) hbel.out fun _ h => h) fun g hg => by
        obtain ⟨cur, hc, _⟩ := own_block HR45.out hg
        exact (Array.getElem?_eq_some_iff.1 hc).1
      have hr5 := own_kept HR5.out (Kept.of_below_at (p := fun k => k < w5.heap.size) hbel.out fun _ h => h) fun g hg => by
        obtain ⟨cur, hc, _⟩ := own_block HR5.out hg
        exact (Array.getElem?_eq_some_iff.1 hc).1
      have hsn : (Pr.dnB Tk.data.toList).take (k + 1) = (Pr.dnB Tk.data.toList).take k ++ [Tk[k].toNat] := by
        unfold Pr.dnB
        rw [← List.map_take, ← List.map_take, take_snoc Tk k hlt, List.map_append]
        rfl
      have hmem : Tk[k] ∈ Tk.data.toList := by
        have := byte_get Tk k hlt
        exact List.mem_of_getElem? this
      have h0 := HTW'.out _ hmem
      have hl48 := Hf.getD_le H48.out Tk[k].toNat
      have hcl : Hf.code wide Tk[k].toNat ≤ 281474976710656 := by
        rw [Hf.code_nxt]
        exact Hf.nxt_bound hl48 HG.out.sum
      have HN : Hid (Pr.words wide ((Pr.dnB Tk.data.toList).take (k + 1)) = Pr.words wide ((Pr.dnB Tk.data.toList).take k) ++ Pr.wd (Hf.code wide Tk[k].toNat) (wide.getD Tk[k].toNat 0)) := by
        show _ = _
        rw [hsn, Pr.words_snoc]
        rfl
      have hwl := Pr.words_le (Hf.getD_le H48.out) ((Pr.dnB Tk.data.toList).take k)
      have htl : ((Pr.dnB Tk.data.toList).take k).length ≤ k := List.length_take_le _ _
      generalize hb : Tk[k] = b at *
      have c5' := own_at hr5 b.toNat (by rw [Hf.codes_length, HW.out]; exact hb256)
      have hcd : (Hf.codes wide)[b.toNat]'(by rw [Hf.codes_length, HW.out]; exact hb256) = (Hf.code wide b.toNat : Nat) := by simp [Hf.codes]
      rw [hcd] at c5'
      have c4' := own_at hr4 b.toNat (by rw [Hf.up_length, HW.out]; exact hb256)
      rw [Hf.up_get] at c4'
      have hput := put_bits w5.heap.size w9.heap.size u HDR (Pr.words wide ((Pr.dnB Tk.data.toList).take k)) (Hf.code wide b.toNat) (wide.getD b.toNat 0) wr.drew ⟨hbw.out.box, hbw.out.old, hbw.out.row.drew⟩ (by omega) (by omega) hl48 hcl
      rw [← HN.out] at hput
      have HNL : Hid (Pr.free ((Pr.words wide ((Pr.dnB Tk.data.toList).take k)).length + wide.getD b.toNat 0) = Pr.free (Pr.words wide ((Pr.dnB Tk.data.toList).take (k + 1))).length) := by
        show _ = _
        rw [HN.out, List.length_append, Pr.wd_length]
      rw [HNL.out] at hput
      clear hcd hsn hmem h0 hwl htl hr4 hr5 HNL HN
      generalize Hf.code wide b.toNat = cb at *
      generalize wide.getD b.toNat 0 = lb at *
      go_wp2_with fail
      go_region_with (refine hput.mono ?_; rintro e w1x ⟨rfl, hbx, hlx⟩)
      all_goals obtain ⟨u', x1⟩ := hbx
      all_goals have HX1 : Hid (BW w1x w5.heap.size w9.heap.size u' (HDR ++ Pr.upB (Pr.bytes (Pr.words wide ((Pr.dnB Tk.data.toList).take (k + 1))))) (Pr.free (Pr.words wide ((Pr.dnB Tk.data.toList).take (k + 1))).length)) := x1
      all_goals have HX2 : Hid (Below w5.heap.size w5 w1x) := hbel.out.drew.trans hlx
      all_goals clear x1 hput c4' c5' hbw hbel hlx
      all_goals go_wp2_with fail
      all_goals go_roundw
      all_goals first | exact ⟨k + 1, u', by omega, by go_num, HX1, HX2⟩ | (simp only [intOf]; omega)
    · obtain rfl : k = Tk.size := by omega
      have hbw := hbw.out
      rw [List.take_of_length_le (by unfold Pr.dnB; rw [List.length_map, ← Lib.size_eq]; exact Nat.le_refl _)] at hbw
      have hstr := run_str hbw.row
      obtain ⟨d0, _⟩ := hbw.cells
      obtain ⟨au, cu, rfl⟩ := own_form hbw.row
      have HBW : Hid (Below w.heap.size w wr) := HB5.out.trans (hbel.out.mono HB5.out.size)
      rw [← HCD.out] at hstr d0
      clear hbw
      go_wp2_with fail
      go_ret
      exact ⟨wide, _, rfl, rfl, HHL'.out, HBW.out⟩
end Go.Proofs.Ytgdkfaphbbdnbaa

namespace Go.Proofs.Ytgdkfaphbbdnbaa
open Go.RowKit
set_option maxRecDepth 4000

set_option maxHeartbeats 400000 in
theorem press_large (s : ByteArray) (w : World) (hs : 4096 < s.size) (_h : s.size ≤ 140737488351232) :
    Calls Try.prog 7 #[.string s] w fun e w' => e = .returned (.tuple #[.string ⟨#[]⟩, .int .i64 2]) ∧ w' = w := by
  go_enter Try.func7, Try.ntmps7
  go_wp2_with fail
  go_ret2
  exact ⟨rfl, rfl⟩

set_option maxHeartbeats 2000000 in
theorem press_any (s : ByteArray) (w : World) (hs : s.size ≤ 4096) :
    Calls Try.prog 7 #[.string s] w fun e w' => ∃ (wide : List Nat) (s' : ByteArray), e = .returned (.tuple #[.string s', .int .i64 0]) ∧ s'.data.toList = (Pr.pr s.data.toList wide).1 ∧ Hf.HL (Pr.tally (Pr.T s.data.toList)) wide ∧ Below w.heap.size w w' := by
  obtain ⟨i0, hi, hz0, hz1, hz2⟩ := info_parts info_u8
  have hone := owns_one w 0 (by omega) (by omega)
  rw [show [UInt8.ofNat (0 : Int).toNat] = [(0 : UInt8)] from rfl] at hone
  go_enter Try.func7, Try.ntmps7
  go_wp2_with (at_builtin; refine Lib.wpList_append_own_string _ rfl (.tmp 9) (.tmp 10) 26 9 rfl w.heap.size 5 i0 Try.underlying26 Try.underlying9 hi hz0 hz1 hz2 _ _ _ rfl hone s rfl ?c3 ?c4 ?c5 ?_)
  case c3 => unfold maxLen; simp only [List.length_cons, List.length_nil]; omega
  case c4 => simp only [List.length_cons, List.length_nil]; omega
  case c5 => simp
  intro v1 w1 hown1 hgrow _
  have HB1 : Hid (Below w.heap.size w w1) := ((Below.refl _ w).alloc (Nat.le_refl _) _).grown hgrow (by simp) fun j hj => (hone.lt j hj).1
  have hrow : w1.ownsRow w.heap.size 5 1 v1 (0 :: s.data.toList).length ((0 :: s.data.toList).map B) := by
    have e : (0 :: s.data.toList).length = [(0 : UInt8)].length + s.size := by rw [Lib.size_eq]; simp only [List.length_cons, List.length_nil]; omega
    rw [e]
    exact hown1
  have hstr := run_str hrow
  obtain ⟨a1, c1, rfl⟩ := own_form hown1
  have h2 := coded_any s w1 hs
  obtain ⟨Pl, hPl⟩ : ∃ Pl : ByteArray, Pl = ⟨(0 :: s.data.toList).toArray⟩ := ⟨_, rfl⟩
  rw [← hPl] at hstr
  have HP : Hid (Pl.data.toList = 0 :: s.data.toList) := by rw [hPl]; exact rfl
  have hPz : (Pl.size : Int) = (s.size : Int) + 1 := by rw [Lib.size_eq, HP.out, Lib.size_eq]; simp
  clear hown1 hgrow hone hrow hPl
  go_wp2_with fail
  refine h2.mono ?_
  rintro e w2 ⟨wide, s2, rfl, hs2, hHL, hb2⟩
  have HB2 : Hid (Below w.heap.size w w2) := HB1.out.trans (hb2.mono HB1.out.size)
  have HL : Hid (Hf.HL (Pr.tally (Pr.T s.data.toList)) wide) := hHL
  have hz : s2.size = (Pr.cod s.data.toList wide).length := by rw [Lib.size_eq, hs2]
  have HR : Hid ((Pr.pr s.data.toList wide).1 = if s2.size ≤ s.size then Pr.cod s.data.toList wide else 0 :: s.data.toList) := by
    show _ = _
    unfold Pr.pr
    rw [if_neg (by rw [← Lib.size_eq]; omega), ← Lib.size_eq, hz]
    split <;> rfl
  have HS2 : Hid (s2.data.toList = Pr.cod s.data.toList wide) := hs2
  clear h2 hb2 hHL hz hs2 HB1
  by_cases hlt : s2.size ≤ s.size
  · have HR2 : Hid ((Pr.pr s.data.toList wide).1 = Pr.cod s.data.toList wide) := by show _ = _; rw [HR.out, if_pos hlt]
    have hq : s2.size < Pl.size := by omega
    clear HR hPz
    go_wp2_with fail
    go_ret2
    exact ⟨wide, s2, rfl, by rw [HR2.out]; exact HS2.out, HL.out, HB2.out⟩
  · have HR2 : Hid ((Pr.pr s.data.toList wide).1 = 0 :: s.data.toList) := by show _ = _; rw [HR.out, if_neg hlt]
    have hq : Pl.size ≤ s2.size := by omega
    clear HR hPz
    go_wp2_with fail
    go_ret2
    exact ⟨wide, Pl, rfl, by rw [HR2.out]; exact HP.out, HL.out, HB2.out⟩
end Go.Proofs.Ytgdkfaphbbdnbaa
