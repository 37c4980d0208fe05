/-
  What DeltaOwn leans on, part 4.
-/
import Derived.Test.YthpcbbkpjggjbaaGreatDoorZDeltaOwn3
import Derived.Lib.AppendStr
import Derived.Shelf.Strings.Count

namespace Go.Proofs.YthpcbbkpjggjbaaGreatDoor
open Go.RowKit
set_option maxRecDepth 4000
theorem head_hi (c : Int) (w : World) (h0 : 128 ≤ c) (h1 : c ≤ 255) :
    Calls Tryz.prog 130 #[.int .u8 c] w fun e w' => e = .returned (.tuple #[.int .i64 (c - 128), .int .u8 0]) ∧ w' = w := by
  go_enter Tryz.func130, Tryz.ntmps130
  go_wp2
  go_ret2
  exact ⟨rfl, rfl⟩
theorem head_lo (c : Int) (w : World) (h0 : 0 ≤ c) (h1 : c ≤ 127) :
    Calls Tryz.prog 130 #[.int .u8 c] w fun e w' => e = .returned (.tuple #[.int .i64 (127 - c), .int .u8 255]) ∧ w' = w := by
  go_enter Tryz.func130, Tryz.ntmps130
  go_wp2
  go_ret2
  exact ⟨rfl, rfl⟩
theorem readN_lt (l : List UInt8) (k t : Nat) : (Nm.readN l k t).1 < 18446744073709551616 := by
  unfold Nm.readN
  split
  · simp
  split
  · simp
  split
  · simp
  · rename_i h8 _ _
    have h := Nm.val_lt (Nm.tn t (l.take k))
    have hle : (Nm.tn t (l.take k)).length ≤ 8 := by rw [Nm.tn_length]; have := List.length_take_le k l; omega
    have hp : 256 ^ (Nm.tn t (l.take k)).length ≤ 256 ^ 8 := Nat.pow_le_pow_right (by omega) hle
    show Nm.val (Nm.tn t (l.take k)) < 18446744073709551616
    omega
set_option maxHeartbeats 1000000 in
theorem getI_any (s : ByteArray) (w : World) (hs : s.size ≤ 9223372036854775807) :
    Calls Tryz.prog 119 #[.string s] w fun e w' =>
      e = .returned (.tuple #[.int .i64 (Nm.getI s.data.toList).1, .int .i64 (Nm.getI s.data.toList).2.1, .int .i64 (Nm.getI s.data.toList).2.2]) ∧ w' = w := by
  by_cases h0 : s.size = 0
  · have hr : Nm.getI s.data.toList = (0, 0, 3) := by rw [Nm.getI, if_pos (List.length_eq_zero_iff.1 (by simpa using h0))]
    rw [hr]
    go_enter Tryz.func119, Tryz.ntmps119
    go_wp2
    go_ret3
    exact ⟨rfl, rfl⟩
  · have hp : 0 < s.size := by omega
    have hne := list_ne s hp
    have hb := s[0].toNat_lt
    have hh := head_byte s hp
    have hz : ((s.size : Int) == 0) = false := beq_eq_false_iff_ne.2 (by omega)
    generalize hc : s[0] = c at *
    by_cases hc128 : 128 ≤ c.toNat
    · obtain ⟨kk, hkk⟩ : ∃ kk : Nat, kk = c.toNat - 128 := ⟨_, rfl⟩
      have hk255 : kk ≤ 255 := by omega
      have hg : Nm.getI s.data.toList = if (Nm.readN s.data.toList.tail kk 0).2 = 0 then (if 9223372036854775807 < (Nm.readN s.data.toList.tail kk 0).1 then ((0 : Int), (0 : Nat), (4 : Int)) else ( ((Nm.readN s.data.toList.tail kk 0).1 : Int), 1 + kk, (0 : Int))) else ((0 : Int), (0 : Nat), (Nm.readN s.data.toList.tail kk 0).2) := by
        rw [Nm.getI, if_neg hne]; simp only [hh]; rw [if_pos hc128, ← hkk]
      rw [hg]
      clear hg hh hne h0
      have hkI : (c.toNat : Int) - 128 = (kk : Int) := by omega
      have HK : Hid ((c.toNat : Int) - 128 = (kk : Int)) := hkI
      clear hkI hkk
      have hlt := readN_lt s.data.toList.tail kk 0
      generalize hR : Nm.readN s.data.toList.tail kk 0 = r at *
      obtain ⟨r1, r2⟩ := r
      simp only at hlt
      have HR : Hid (Nm.readN s.data.toList.tail kk 0 = (r1, r2)) := hR
      clear hR
      by_cases hr : r2 = 0
      · subst hr
        rw [if_pos rfl]
        by_cases hm : 9223372036854775807 < r1
        · rw [if_pos hm]
          go_enter Tryz.func119, Tryz.ntmps119
          go_wp2_with (go_at_call 130; refine (head_hi _ _ (by omega) (by omega)).mono ?_; rintro e w' ⟨rfl, rfl⟩; rw [HK.out])
          refine (read_tail s _ 0 _ hs (by omega) (by omega) (by omega) (by omega)).mono ?_
          rintro e w' ⟨rfl, rfl⟩
          rw [Int.toNat_natCast, show (0 : Int).toNat = 0 from rfl, HR.out]
          go_wp2
          go_ret3
          exact ⟨rfl, rfl⟩
        · rw [if_neg hm]
          go_enter Tryz.func119, Tryz.ntmps119
          go_wp2_with (go_at_call 130; refine (head_hi _ _ (by omega) (by omega)).mono ?_; rintro e w' ⟨rfl, rfl⟩; rw [HK.out])
          refine (read_tail s _ 0 _ hs (by omega) (by omega) (by omega) (by omega)).mono ?_
          rintro e w' ⟨rfl, rfl⟩
          rw [Int.toNat_natCast, show (0 : Int).toNat = 0 from rfl, HR.out]
          go_wp2
          go_ret3
          exact ⟨rfl, rfl⟩
      · have hq : (r2 != 0) = true := by simpa using hr
        rw [if_neg hr]
        go_enter Tryz.func119, Tryz.ntmps119
        go_wp2_with (go_at_call 130; refine (head_hi _ _ (by omega) (by omega)).mono ?_; rintro e w' ⟨rfl, rfl⟩; rw [HK.out])
        refine (read_tail s _ 0 _ hs (by omega) (by omega) (by omega) (by omega)).mono ?_
        rintro e w' ⟨rfl, rfl⟩
        rw [Int.toNat_natCast, show (0 : Int).toNat = 0 from rfl, HR.out]
        go_wp2
        go_ret3
        exact ⟨rfl, rfl⟩
    · obtain ⟨kk, hkk⟩ : ∃ kk : Nat, kk = 127 - c.toNat := ⟨_, rfl⟩
      have hk255 : kk ≤ 255 := by omega
      have hg : Nm.getI s.data.toList = if (Nm.readN s.data.toList.tail kk 255).2 = 0 then (if 9223372036854775807 < (Nm.readN s.data.toList.tail kk 255).1 then ((0 : Int), (0 : Nat), (4 : Int)) else (-1 - ((Nm.readN s.data.toList.tail kk 255).1 : Int), 1 + kk, (0 : Int))) else ((0 : Int), (0 : Nat), (Nm.readN s.data.toList.tail kk 255).2) := by
        rw [Nm.getI, if_neg hne]; simp only [hh]; rw [if_neg hc128, ← hkk]
      rw [hg]
      clear hg hh hne h0
      have hkI : 127 - (c.toNat : Int) = (kk : Int) := by omega
      have HK : Hid (127 - (c.toNat : Int) = (kk : Int)) := hkI
      clear hkI hkk
      have hlt := readN_lt s.data.toList.tail kk 255
      generalize hR : Nm.readN s.data.toList.tail kk 255 = r at *
      obtain ⟨r1, r2⟩ := r
      simp only at hlt
      have HR : Hid (Nm.readN s.data.toList.tail kk 255 = (r1, r2)) := hR
      clear hR
      by_cases hr : r2 = 0
      · subst hr
        rw [if_pos rfl]
        by_cases hm : 9223372036854775807 < r1
        · rw [if_pos hm]
          go_enter Tryz.func119, Tryz.ntmps119
          go_wp2_with (go_at_call 130; refine (head_lo _ _ (by omega) (by omega)).mono ?_; rintro e w' ⟨rfl, rfl⟩; rw [HK.out])
          refine (read_tail s _ 255 _ hs (by omega) (by omega) (by omega) (by omega)).mono ?_
          rintro e w' ⟨rfl, rfl⟩
          rw [Int.toNat_natCast, show (255 : Int).toNat = 255 from rfl, HR.out]
          go_wp2
          go_ret3
          exact ⟨rfl, rfl⟩
        · rw [if_neg hm]
          go_enter Tryz.func119, Tryz.ntmps119
          go_wp2_with (go_at_call 130; refine (head_lo _ _ (by omega) (by omega)).mono ?_; rintro e w' ⟨rfl, rfl⟩; rw [HK.out])
          refine (read_tail s _ 255 _ hs (by omega) (by omega) (by omega) (by omega)).mono ?_
          rintro e w' ⟨rfl, rfl⟩
          rw [Int.toNat_natCast, show (255 : Int).toNat = 255 from rfl, HR.out]
          go_wp2
          go_ret3
          exact ⟨rfl, rfl⟩
      · have hq : (r2 != 0) = true := by simpa using hr
        rw [if_neg hr]
        go_enter Tryz.func119, Tryz.ntmps119
        go_wp2_with (go_at_call 130; refine (head_lo _ _ (by omega) (by omega)).mono ?_; rintro e w' ⟨rfl, rfl⟩; rw [HK.out])
        refine (read_tail s _ 255 _ hs (by omega) (by omega) (by omega) (by omega)).mono ?_
        rintro e w' ⟨rfl, rfl⟩
        rw [Int.toNat_natCast, show (255 : Int).toNat = 255 from rfl, HR.out]
        go_wp2
        go_ret3
        exact ⟨rfl, rfl⟩
end Go.Proofs.YthpcbbkpjggjbaaGreatDoor
namespace Go.Proofs.YthpcbbkpjggjbaaGreatDoor
open Go.RowKit
set_option maxRecDepth 4000
def Rs (W : World) (b : Nat) (x : Td.St) : Prop := W.heap[b]? = some (.cells #[.string ⟨x.1.toArray⟩, .int .i64 x.2] 134 (0, 0))
section
variable {W W' : World} {b : Nat} {x : Td.St}
theorem Rs.cells (h : Rs W b x) : W.cell? ⟨b, 0, none⟩ = some (.string ⟨x.1.toArray⟩) ∧ W.cell? ⟨b, 1, none⟩ = some (.int .i64 x.2) ∧ W.frozen? ⟨b, 0, none⟩ = false ∧ W.frozen? ⟨b, 1, none⟩ = false := by
  unfold Rs at h
  refine ⟨?_, ?_, ?_, ?_⟩
  · simp only [World.cell?, h]; rfl
  · simp only [World.cell?, h]; rfl
  · simp [World.frozen?, h]
  · simp [World.frozen?, h]
theorem Rs.set0 (h : Rs W b x) (l : List UInt8) : Rs (W.setCell ⟨b, 0, none⟩ (.string ⟨l.toArray⟩)) b (l, x.2) := by
  unfold Rs at h ⊢
  simp [World.setCell, Array.getElem?_modify, h]
theorem Rs.set1 (h : Rs W b x) (e : Int) : Rs (W.setCell ⟨b, 1, none⟩ (.int .i64 e)) b (x.1, e) := by
  unfold Rs at h ⊢
  simp [World.setCell, Array.getElem?_modify, h]
theorem Rs.lt (h : Rs W b x) : b < W.heap.size := (Array.getElem?_eq_some_iff.1 h).1
theorem Rs.past (h : Rs W b x) (hb : Below W.heap.size W W') : Rs W' b x := (hb.block _ h.lt).trans h
end
def RsOut (b : Nat) (w : World) (v : Value) (x : Td.St) (e : Ending) (w' : World) : Prop := e = .returned v ∧ Rs w' b x ∧ Kept (fun j => j ≠ b) w w'
theorem tg_ext (l : List UInt8) (k : Nat) : (⟨l.toArray⟩ : ByteArray).extract k (⟨l.toArray⟩ : ByteArray).size = ⟨(l.drop k).toArray⟩ := by
  apply ByteArray.ext
  apply Array.toList_inj.1
  rw [Nn.ext_drop']
theorem tg_size (l : List UInt8) : (⟨l.toArray⟩ : ByteArray).size = l.length := by show l.toArray.size = _; rw [List.size_toArray]
set_option maxHeartbeats 1000000 in
theorem rdtake_any (b k : Nat) (e : Int) (x : Td.St) (w : World) (h : Rs w b x) (hk : e = 0 → k ≤ x.1.length) (hx : x.1.length ≤ 1048576) :
    Calls Tryz.prog 103 #[.pointer (some ⟨b, 0, none⟩), .int .i64 k, .int .i64 e] w (RsOut b w (.bool (Td.tk k e x).1) (Td.tk k e x).2) := by
  unfold RsOut
  obtain ⟨l, er⟩ := x
  obtain ⟨c0, c1, f0, f1⟩ := h.cells
  have H0 : Hid (Rs w b (l, er)) := h
  by_cases h1 : er ≠ 0
  · rw [Td.tk_stay h1]
    have q : (er != 0) = true := by rw [bne_iff_ne]; exact h1
    clear h
    go_enter Tryz.func103, Tryz.ntmps103
    go_wp2_with fail
    go_ret
    exact ⟨rfl, H0.out, Kept.refl _ _⟩
  obtain rfl := Decidable.not_not.mp h1
  by_cases h2 : e ≠ 0
  · rw [Td.tk_err h2]
    have q : (e != 0) = true := by rw [bne_iff_ne]; exact h2
    have H1 : Hid (Rs (w.setCell ⟨b, 1, none⟩ (.int .i64 e)) b (l, e)) := h.set1 e
    have HK : Hid (Kept (fun j => j ≠ b) w (w.setCell ⟨b, 1, none⟩ (.int .i64 e))) := (Kept.refl _ w).setCell (by simp) _
    clear h hk
    go_enter Tryz.func103, Tryz.ntmps103
    go_wp2_with fail
    go_ret
    exact ⟨rfl, H1.out, HK.out⟩
  obtain rfl := Decidable.not_not.mp h2
  rw [Td.tk_ok]
  have hkl : k ≤ l.length := hk rfl
  replace hx : l.length ≤ 1048576 := hx
  obtain ⟨s, hs⟩ : ∃ s : ByteArray, s = ⟨l.toArray⟩ := ⟨_, rfl⟩
  have hsz : s.size = l.length := by rw [hs]; exact tg_size l
  have hex : s.extract k s.size = ⟨(l.drop k).toArray⟩ := by rw [hs]; exact tg_ext l k
  have HE : Hid (s.extract k s.size = ⟨(l.drop k).toArray⟩) := hex
  have H1 : Hid (Rs (w.setCell ⟨b, 0, none⟩ (.string (s.extract k s.size))) b (l.drop k, 0)) := by rw [hex]; exact h.set0 _
  have HK : Hid (Kept (fun j => j ≠ b) w (w.setCell ⟨b, 0, none⟩ (.string (s.extract k s.size)))) := (Kept.refl _ w).setCell (by simp) _
  have hk1 : (k : Int) ≤ (s.size : Int) := by omega
  dsimp only at c0 c1
  rw [← hs] at c0
  have hsx : s.size ≤ 1048576 := by omega
  clear h hk hs hex h1 h2 hkl hsz
  go_enter Tryz.func103, Tryz.ntmps103
  go_wp2_with fail
  go_ret
  exact ⟨rfl, H1.out, HK.out⟩
set_option maxHeartbeats 1000000 in
theorem rdnumber_any (b most : Nat) (x : Td.St) (w : World) (h : Rs w b x) (hm : most ≤ 4096) (hx : x.1.length ≤ 1048576) :
    Calls Tryz.prog 83 #[.pointer (some ⟨b, 0, none⟩), .int .u64 most] w (RsOut b w (.int .i64 (Td.sNum most x).1) (Td.sNum most x).2) := by
  have hg := get_any ⟨x.1.toArray⟩ w (by rw [tg_size]; omega)
  rcases hG : Nm.getN x.1 with ⟨n, k, e0⟩
  have hG' : Nm.getN (⟨x.1.toArray⟩ : ByteArray).data.toList = (n, k, e0) := hG
  rw [hG'] at hg
  have hT : Td.sNum most x = (if (Td.tk k (Td.nuE most x.1) x).1 = true then n else 0, (Td.tk k (Td.nuE most x.1) x).2) := by unfold Td.sNum; rw [hG]
  have hE : Td.nuE most x.1 = if e0 = 0 ∧ most < n then 2 else e0 := by unfold Td.nuE; rw [hG]
  have hk : Td.nuE most x.1 = 0 → k ≤ x.1.length ∧ n ≤ most := fun q => by
    rw [hE] at q
    split at q
    · cases q
    · rename_i q2
      subst q
      exact ⟨(Nm.get_one hG).1, by
        by_cases z : most < n
        · exact absurd ⟨rfl, z⟩ q2
        · omega⟩
  have ht := rdtake_any b k (Td.nuE most x.1) x w h (fun q => (hk q).1) hx
  have HTr : Hid ((Td.tk k (Td.nuE most x.1) x).1 = true → n ≤ most) := fun q => (hk (Td.tk_true q).2).2
  rw [hT]
  obtain ⟨c0, c1, f0, f1⟩ := h.cells
  generalize Td.tk k (Td.nuE most x.1) x = T at *
  generalize Td.nuE most x.1 = E at *
  unfold RsOut at ht ⊢
  have hn0 : (0 : Int) ≤ (n : Int) := by omega
  clear h hk hT hG hG' hx
  go_enter Tryz.func83, Tryz.ntmps83
  go_wp2_with fail
  refine hg.mono ?_
  rintro e u ⟨rfl, hu⟩
  obtain rfl := hu.symm
  clear hg hu
  by_cases h1 : e0 ≠ 0
  · have q : (e0 == 0) = false := by rw [beq_eq_false_iff_ne]; exact h1
    rw [if_neg (fun z => h1 z.1)] at hE
    subst hE
    clear h1
    go_wp2_with fail
    refine ht.mono ?_
    rintro e w2 ⟨rfl, r2, k2⟩
    have HR : Hid (Rs w2 b T.2 ∧ Kept (fun j => j ≠ b) w w2) := ⟨r2, k2⟩
    clear ht r2 k2
    obtain ⟨tb, x2⟩ := T
    dsimp only at *
    cases tb with
    | true =>
      have hnm : n ≤ most := HTr.out rfl
      have hw64 : wrap64 (n : Int) = (n : Int) := by unfold wrap64; omega
      clear HTr
      go_wp2_with fail
      go_ret
      exact ⟨rfl, HR.out⟩
    | false =>
      clear HTr
      go_wp2_with fail
      go_ret
      exact ⟨rfl, HR.out⟩
  obtain rfl := Decidable.not_not.mp h1
  clear h1
  by_cases h2 : most < n
  · rw [if_pos ⟨rfl, h2⟩] at hE
    subst hE
    have q : (most : Int) < (n : Int) := by omega
    go_wp2_with fail
    refine ht.mono ?_
    rintro e w2 ⟨rfl, r2, k2⟩
    have HR : Hid (Rs w2 b T.2 ∧ Kept (fun j => j ≠ b) w w2) := ⟨r2, k2⟩
    clear ht r2 k2
    obtain ⟨tb, x2⟩ := T
    dsimp only at *
    cases tb with
    | true =>
      have hnm : n ≤ most := HTr.out rfl
      have hw64 : wrap64 (n : Int) = (n : Int) := by unfold wrap64; omega
      clear HTr
      go_wp2_with fail
      go_ret
      exact ⟨rfl, HR.out⟩
    | false =>
      clear HTr
      go_wp2_with fail
      go_ret
      exact ⟨rfl, HR.out⟩
  · rw [if_neg (fun z => h2 z.2)] at hE
    subst hE
    have q : ¬ (most : Int) < (n : Int) := by omega
    go_wp2_with fail
    refine ht.mono ?_
    rintro e w2 ⟨rfl, r2, k2⟩
    have HR : Hid (Rs w2 b T.2 ∧ Kept (fun j => j ≠ b) w w2) := ⟨r2, k2⟩
    clear ht r2 k2
    obtain ⟨tb, x2⟩ := T
    dsimp only at *
    cases tb with
    | true =>
      have hnm : n ≤ most := HTr.out rfl
      have hw64 : wrap64 (n : Int) = (n : Int) := by unfold wrap64; omega
      clear HTr
      go_wp2_with fail
      go_ret
      exact ⟨rfl, HR.out⟩
    | false =>
      clear HTr
      go_wp2_with fail
      go_ret
      exact ⟨rfl, HR.out⟩
set_option maxHeartbeats 1000000 in
theorem rdsigned_any (b : Nat) (x : Td.St) (w : World) (h : Rs w b x) (hx : x.1.length ≤ 1048576) :
    Calls Tryz.prog 106 #[.pointer (some ⟨b, 0, none⟩)] w (RsOut b w (.int .i64 (Td.sInt x).1) (Td.sInt x).2) := by
  have hg := getI_any ⟨x.1.toArray⟩ w (by rw [tg_size]; omega)
  rcases hG : Nm.getI x.1 with ⟨n, k, e0⟩
  have hG' : Nm.getI (⟨x.1.toArray⟩ : ByteArray).data.toList = (n, k, e0) := hG
  rw [hG'] at hg
  have hT : Td.sInt x = (if (Td.tk k e0 x).1 = true then n else 0, (Td.tk k e0 x).2) := by unfold Td.sInt; rw [hG]
  have ht := rdtake_any b k e0 x w h (fun q => by subst q; exact (Nm.getI_one hG).1) hx
  rw [hT]
  obtain ⟨c0, c1, f0, f1⟩ := h.cells
  generalize Td.tk k e0 x = T at *
  unfold RsOut at ht ⊢
  clear h hT hG hG' hx
  go_enter Tryz.func106, Tryz.ntmps106
  go_wp2_with fail
  refine hg.mono ?_
  rintro e u ⟨rfl, hu⟩
  obtain rfl := hu.symm
  clear hg hu
  go_wp2_with fail
  refine ht.mono ?_
  rintro e w2 ⟨rfl, r2, k2⟩
  have HR : Hid (Rs w2 b T.2 ∧ Kept (fun j => j ≠ b) w w2) := ⟨r2, k2⟩
  clear ht r2 k2
  obtain ⟨tb, x2⟩ := T
  dsimp only at *
  cases tb with
  | true =>
    go_wp2_with fail
    go_ret
    exact ⟨rfl, HR.out⟩
  | false =>
    go_wp2_with fail
    go_ret
    exact ⟨rfl, HR.out⟩
set_option maxHeartbeats 1000000 in
theorem rdtext_any (b : Nat) (x : Td.St) (w : World) (h : Rs w b x) (hx : x.1.length ≤ 1048576) :
    Calls Tryz.prog 104 #[.pointer (some ⟨b, 0, none⟩)] w (RsOut b w (.string ⟨(Td.sTxt x).1.toArray⟩) (Td.sTxt x).2) := by
  have hg := getT_any ⟨x.1.toArray⟩ w (by rw [tg_size]; omega)
  rcases hG : Nm.getT x.1 with ⟨n, k, e0⟩
  have hG' : Nm.getT (⟨x.1.toArray⟩ : ByteArray).data.toList = (n, k, e0) := hG
  rw [hG'] at hg
  have hT : Td.sTxt x = (if (Td.tk k e0 x).1 = true then n else [], (Td.tk k e0 x).2) := by unfold Td.sTxt; rw [hG]
  have ht := fun W (hW : Rs W b x) => rdtake_any b k e0 x W hW (fun q => by subst q; exact (Nm.getT_one hG).1) hx
  rw [hT]
  obtain ⟨c0, c1, f0, f1⟩ := h.cells
  generalize Td.tk k e0 x = T at *
  unfold RsOut at ht ⊢
  have H0 : Hid (Rs w b x) := h
  clear h hT hG hG' hx
  go_enter Tryz.func104, Tryz.ntmps104
  go_wp2_with fail
  refine hg.mono ?_
  rintro e w1 ⟨rfl, b1⟩
  have HK1 : Hid (Kept (fun j => j ≠ b) w w1) := Kept.of_below b1
  replace ht := ht w1 (H0.out.past b1)
  clear hg b1
  go_wp2_with fail
  refine ht.mono ?_
  rintro e w2 ⟨rfl, r2, k2⟩
  have HR : Hid (Rs w2 b T.2 ∧ Kept (fun j => j ≠ b) w w2) := ⟨r2, HK1.out.trans k2⟩
  clear ht r2 k2
  obtain ⟨tb, x2⟩ := T
  dsimp only at *
  cases tb with
  | true =>
    go_wp2_with fail
    go_ret
    exact ⟨rfl, HR.out⟩
  | false =>
    go_wp2_with fail
    go_ret
    exact ⟨rfl, HR.out⟩
theorem tg_take (l : List UInt8) (k : Nat) : (⟨l.toArray⟩ : ByteArray).extract 0 k = ⟨(l.take k).toArray⟩ := by
  apply ByteArray.ext
  apply Array.toList_inj.1
  rw [Lib.extract_data]
  simp
set_option maxHeartbeats 1000000 in
theorem rdbytes_any (b k : Nat) (x : Td.St) (w : World) (h : Rs w b x) (_hk : k ≤ 8) (hx : x.1.length ≤ 1048576) :
    Calls Tryz.prog 118 #[.pointer (some ⟨b, 0, none⟩), .int .i64 k] w (RsOut b w (.string ⟨(Td.sByt k x).1.toArray⟩) (Td.sByt k x).2) := by
  have hT : Td.sByt k x = (if (Td.tk k (Td.shE k x.1) x).1 = true then x.1.take k else [], (Td.tk k (Td.shE k x.1) x).2) := rfl
  have hE : Td.shE k x.1 = if x.1.length < k then 3 else 0 := rfl
  have hz : Td.shE k x.1 = 0 → k ≤ x.1.length := fun q => by
    rw [hE] at q
    split at q
    · cases q
    · omega
  have ht := rdtake_any b k (Td.shE k x.1) x w h hz hx
  have HTr : Hid ((Td.tk k (Td.shE k x.1) x).1 = true → k ≤ x.1.length) := fun q => hz (Td.tk_true q).2
  rw [hT]
  obtain ⟨c0, c1, f0, f1⟩ := h.cells
  generalize Td.tk k (Td.shE k x.1) x = T at *
  generalize Td.shE k x.1 = E at *
  obtain ⟨l, er⟩ := x
  dsimp only at *
  obtain ⟨s, hs⟩ : ∃ s : ByteArray, s = ⟨l.toArray⟩ := ⟨_, rfl⟩
  have hsz : s.size = l.length := by rw [hs]; exact tg_size l
  have HE : Hid (s.extract 0 k = ⟨(l.take k).toArray⟩) := by show _ = _; rw [hs]; exact tg_take l k
  rw [← hs] at c0
  rw [← hsz] at hE HTr hx
  unfold RsOut at ht ⊢
  clear h hT hs hsz hz
  go_enter Tryz.func118, Tryz.ntmps118
  by_cases h2 : s.size < k
  · rw [if_pos h2] at hE
    subst hE
    have q : (s.size : Int) < (k : Int) := by omega
    go_wp2_with fail
    refine ht.mono ?_
    rintro e w2 ⟨rfl, r2, k2⟩
    have HR : Hid (Rs w2 b T.2 ∧ Kept (fun j => j ≠ b) w w2) := ⟨r2, k2⟩
    clear ht r2 k2
    obtain ⟨tb, x2⟩ := T
    dsimp only at *
    cases tb with
    | true =>
      exact absurd (HTr.out rfl) (by omega)
    | false =>
      clear HTr
      go_wp2_with fail
      go_ret
      exact ⟨rfl, HR.out⟩
  · rw [if_neg h2] at hE
    subst hE
    have q : ¬ (s.size : Int) < (k : Int) := by omega
    go_wp2_with fail
    refine ht.mono ?_
    rintro e w2 ⟨rfl, r2, k2⟩
    have HR : Hid (Rs w2 b T.2 ∧ Kept (fun j => j ≠ b) w w2) := ⟨r2, k2⟩
    clear ht r2 k2
    obtain ⟨tb, x2⟩ := T
    dsimp only at *
    cases tb with
    | true =>
      have hks : (k : Int) ≤ (s.size : Int) := by have := HTr.out rfl; omega
      clear HTr
      go_wp2_with fail
      go_ret
      exact ⟨by rw [← HE.out]; rfl, HR.out⟩
    | false =>
      clear HTr
      go_wp2_with fail
      go_ret
      exact ⟨rfl, HR.out⟩
set_option maxHeartbeats 1000000 in
theorem rdkind_any (b : Nat) (x : Td.St) (w : World) (h : Rs w b x) (hx : x.1.length ≤ 1048576) :
    Calls Tryz.prog 105 #[.pointer (some ⟨b, 0, none⟩)] w (RsOut b w (.int .i64 (Td.sKind x).1) (Td.sKind x).2) := by
  have ht := rdbytes_any b 1 x w h (by omega) hx
  have hT : Td.sKind x = (((Td.sByt 1 x).1.headD 0).toNat, (Td.sByt 1 x).2) := rfl
  have hl := Td.sByt_bd 1 x
  rw [hT]
  generalize Td.sByt 1 x = T at *
  obtain ⟨y, x2⟩ := T
  unfold RsOut at ht ⊢
  dsimp only at *
  clear h hT hx
  match y, hl with
  | [], _ =>
    go_enter Tryz.func105, Tryz.ntmps105
    go_wp2_with fail
    refine ht.mono ?_
    rintro e w2 ⟨rfl, r2, k2⟩
    have HR : Hid (Rs w2 b x2 ∧ Kept (fun j => j ≠ b) w w2) := ⟨r2, k2⟩
    clear ht r2 k2
    go_wp2_with fail
    go_ret
    exact ⟨rfl, HR.out⟩
  | [c], _ =>
    obtain ⟨s, hs⟩ : ∃ s : ByteArray, s = ⟨[c].toArray⟩ := ⟨_, rfl⟩
    have hsz : 0 < s.size := by rw [hs, tg_size]; simp
    have e1 : (s.toList == []) = false := data_ne (by rw [hs]; simp)
    obtain ⟨c0, hc0⟩ : ∃ c0 : Nat, s[0].toNat = c0 := ⟨_, rfl⟩
    have HV : Hid (([c].headD 0).toNat = c0) := by show _ = _; rw [← hc0]; subst hs; rfl
    have hc : c0 < 256 := by rw [← hc0]; exact s[0].toNat_lt
    have hwc : wrap64 (c0 : Int) = (c0 : Int) := by unfold wrap64; omega
    rw [← hs] at ht
    clear hs
    go_enter Tryz.func105, Tryz.ntmps105
    go_wp2_with fail
    refine ht.mono ?_
    rintro e w2 ⟨rfl, r2, k2⟩
    have HR : Hid (Rs w2 b x2 ∧ Kept (fun j => j ≠ b) w w2) := ⟨r2, k2⟩
    clear ht r2 k2
    go_wp2_with fail
    go_ret
    exact ⟨by rw [HV.out]; rfl, HR.out⟩
end Go.Proofs.YthpcbbkpjggjbaaGreatDoor
namespace Go.Proofs.YthpcbbkpjggjbaaGreatDoor
open Go.RowKit
set_option maxRecDepth 4000
abbrev Tz8 : Array Value := #[.int .u8 0, .int .u8 0, .int .u8 0, .int .u8 0, .int .u8 0, .int .u8 0, .int .u8 0, .int .u8 0]
theorem Kept.then {p : Nat → Prop} {A B C : World} {n : Nat} (h : Kept p A B) (hb : Below n B C) (hn : A.heap.size ≤ n) : Kept p A C :=
  ⟨hb.os.trans h.os, hb.tape.trans h.tape, hb.output.trans h.output, Nat.le_trans h.size hb.size, fun k hk hp => (hb.block k (by omega)).trans (h.block k hk hp)⟩
theorem tid_info : (Tryz.prog.info? 39).map (fun i => (i.zero, i.size, i.bytes)) = some (some (.agg Tz8), 8, 8) := by kernel_rfl
def cpW (W : World) (M : Nat) (y : List UInt8) : World := W.setCells M 0 (y.map B)
theorem cpW_cells {W : World} {M : Nat} {y : List UInt8} (h : W.heap[M]? = some (.cells Tz8 39 (0, 0))) (hy : y = [] ∨ y.length = 8) : (cpW W M y).heap[M]? = some (.cells (idC (Td.eight y)).toArray 39 (0, 0)) := by
  rcases hy with rfl | hy
  · exact h
  · rw [Td.eight_id hy]
    match y, hy with
    | [b0, b1, b2, b3, b4, b5, b6, b7], _ => simp [cpW, World.setCells, World.setCell, Array.getElem?_modify, h, idC]
theorem cpW_below {W : World} {M : Nat} {y : List UInt8} (hy : y = [] ∨ y.length = 8) : Below M W (cpW W M y) := by
  rcases hy with rfl | hy
  · exact Below.refl _ _
  · match y, hy with
    | [b0, b1, b2, b3, b4, b5, b6, b7], _ =>
      exact ((((((((Below.refl M W).setCell (p := ⟨M, 0, none⟩) (Nat.le_refl _) _).setCell (p := ⟨M, 1, none⟩) (Nat.le_refl _) _).setCell (p := ⟨M, 2, none⟩) (Nat.le_refl _) _).setCell (p := ⟨M, 3, none⟩) (Nat.le_refl _) _).setCell (p := ⟨M, 4, none⟩) (Nat.le_refl _) _).setCell (p := ⟨M, 5, none⟩) (Nat.le_refl _) _).setCell (p := ⟨M, 6, none⟩) (Nat.le_refl _) _).setCell (p := ⟨M, 7, none⟩) (Nat.le_refl _) _
theorem cpW_run {W : World} {M : Nat} {y : List UInt8} (h : W.heap[M]? = some (.cells Tz8 39 (0, 0))) (hy : y.length ≤ 8) :
    (Builtin.copy_ #[129, 9] 3 #[.slice (some ⟨M, 0, none⟩) 8 8, .string ⟨y.toArray⟩]).run Tryz.prog W = .ok (.int .i64 y.length) (cpW W M y) := by
  have hz : ∀ w, (Go.sizeOf 5).run Tryz.prog w = .ok 1 w := fun w => by go_simp
  have hc : ∀ j, j < 8 → W.cell? ⟨M, j, none⟩ = some (.int .u8 0) := fun j hj => by
    rw [cell_of_row _ M j _ _ _ h, show Tz8 = Array.replicate 8 (Value.int .u8 0) from rfl, Array.getElem?_replicate, if_pos hj]
  have hr := run_copy_string (P := Tryz.prog) W 129 9 3 5 M 0 8 8 ⟨y.toArray⟩ (by kernel_rfl) hz (by rw [tg_size]; exact hy) (fun j hj => by rw [tg_size] at hj; rw [hc _ (by omega)]; rfl) (fun j _ => by simp [World.frozen?, h])
  rw [tg_size] at hr
  exact hr
theorem sByt_form (x : Td.St) (k : Nat) : (Td.sByt k x).1 = [] ∨ (Td.sByt k x).1.length = k := by
  unfold Td.sByt
  simp only
  split
  · rename_i h
    obtain ⟨_, h2⟩ := Td.tk_true h
    unfold Td.shE at h2
    split at h2
    · cases h2
    · refine .inr ?_
      rw [List.length_take]
      omega
  · exact .inl rfl
theorem tg_new8 (W : World) (v0 v1 v2 v3 v4 v5 v6 v7 : Value) {T : TypeId} : ∀ j u, [v0, v1, v2, v3, v4, v5, v6, v7][j]? = some u → (W.alloc (.cells #[v0, v1, v2, v3, v4, v5, v6, v7] T)).cell? ((⟨W.heap.size, 0, none⟩ : Addr).add j) = some u := by
  intro j u hj
  rw [show ((⟨W.heap.size, 0, none⟩ : Addr).add j) = ⟨W.heap.size, j, none⟩ from by unfold Addr.add; split <;> simp_all]
  match j, hj with
  | 0, hj => simp at hj; subst hj; simp
  | 1, hj => simp at hj; subst hj; simp
  | 2, hj => simp at hj; subst hj; simp
  | 3, hj => simp at hj; subst hj; simp
  | 4, hj => simp at hj; subst hj; simp
  | 5, hj => simp at hj; subst hj; simp
  | 6, hj => simp at hj; subst hj; simp
  | 7, hj => simp at hj; subst hj; simp
def PtOut (b : Nat) (w : World) (x : Td.St) (e : Ending) (w' : World) : Prop :=
  ∃ v, e = .returned v ∧ w'.ownsRow w.heap.size 39 8 v (Td.sParts x).1.length (rowR idC (Td.sParts x).1) ∧ Rs w' b (Td.sParts x).2 ∧ Kept (fun j => j ≠ b) w w'
set_option maxHeartbeats 4000000 in
set_option maxRecDepth 10000 in
theorem rdparts_any (b : Nat) (x : Td.St) (w : World) (h : Rs w b x) (hx : x.1.length ≤ 1048576) :
    Calls Tryz.prog 107 #[.pointer (some ⟨b, 0, none⟩)] w (PtOut b w x) := by
  unfold PtOut
  obtain ⟨i0, hi, hz0, hz1, hz2⟩ := info_of' tid_info
  have hg := rdnumber_any b 300 x w h (by omega) hx
  have hS : Td.sParts x = Td.sIds (Td.sNum 300 x).1 (Td.sNum 300 x).2 := rfl
  have hnp := Td.sNum_most 300 x
  have hl1 := Td.sNum_len 300 x
  rw [hS]
  rcases hN : Td.sNum 300 x with ⟨np, x1⟩
  rw [hN] at hg hnp hl1
  dsimp only at *
  unfold RsOut at hg
  have HB : Hid (b < w.heap.size) := h.lt
  have HL : Hid (∀ k, (Td.sIds k x1).2.1.length ≤ 1048576) := fun k => by have := Td.sIds_len x1 k; omega
  have HSt : Hid (∀ k, Td.sIds (k + 1) x1 = ((Td.sIds k x1).1 ++ [Td.eight (Td.sByt 8 (Td.sIds k x1).2).1], (Td.sByt 8 (Td.sIds k x1).2).2)) := fun k => rfl
  have HLn : Hid (∀ k, (Td.sIds k x1).1.length = k) := fun k => (Td.sIds_bd x1 k).1
  have H0 : Hid (Td.sIds 0 x1 = ([], x1)) := rfl
  clear h hS hN hx hl1
  go_enter Tryz.func107, Tryz.ntmps107
  go_wp2_with fail
  refine hg.mono ?_
  rintro e w1 ⟨rfl, r1, k1⟩
  have HR1 : Hid (Rs w1 b x1) := r1
  have HK1 : Hid (Kept (fun j => j ≠ b) w w1) := k1
  clear hg r1 k1
  go_wp2_with fail
  go_loopw [3, 7] (fun vo i wr => ∃ k : Nat, k ≤ np ∧ i = .int .i64 k ∧ Hid (Rs wr b (Td.sIds k x1).2) ∧ Hid (wr.ownsRow w.heap.size 39 8 vo k (rowR idC (Td.sIds k x1).1)) ∧ Hid (Kept (fun j => j ≠ b) w wr)) (fun _ i _ => np - (intOf i).toNat)
  case atStart => exact ⟨0, by omega, rfl, HR1, World.ownsRow_nil _ _ _ _, HK1⟩
  case round =>
    clear HR1 HK1
    obtain ⟨k, hk, rfl, HR, HO, HK⟩ := hrel
    obtain ⟨so, co, hvo⟩ := own_len HO.out
    subst hvo
    by_cases hlt : k < np
    · have hst := HSt.out k
      have hlk := HL.out k
      have HLk : Hid ((Td.sIds k x1).1.length = k) := HLn.out k
      have hy8 := Td.sByt_bd 8 (Td.sIds k x1).2
      have hyf := sByt_form (Td.sIds k x1).2 8
      obtain ⟨W1, hW1⟩ : ∃ W1, W1 = wr.alloc (.cells Tz8 39) := ⟨_, rfl⟩
      have hB1 : Below wr.heap.size wr W1 := by rw [hW1]; exact (Below.refl _ wr).alloc (Nat.le_refl _) _
      have HM1 : Hid (W1.heap[wr.heap.size]? = some (.cells Tz8 39 (0, 0))) := by rw [hW1]; exact heap_alloc_new wr _
      have hby := fun W (hW : Rs W b (Td.sIds k x1).2) => rdbytes_any b 8 (Td.sIds k x1).2 W hW (by omega) hlk
      unfold RsOut at hby
      have HR1 : Hid (Rs W1 b (Td.sIds k x1).2) := HR.out.past hB1
      generalize Td.sByt 8 (Td.sIds k x1).2 = Y at *
      obtain ⟨y, x2⟩ := Y
      dsimp only at *
      obtain ⟨M, hM⟩ : ∃ M, M = wr.heap.size := ⟨_, rfl⟩
      go_upto_region 5 with fail
      rw [← hW1, ← hM]
      clear hW1
      have HB1 : Hid (Below wr.heap.size wr W1) := hB1
      have HMe : Hid (M = wr.heap.size) := hM
      rw [← hM] at HM1
      have HMb : Hid (M ≠ b) := by have h1 := HB.out; have h2 := HK.out.size; show _ ≠ _; omega
      clear hM hB1 HR
      have hcp := fun (W : World) (hW : W.heap[M]? = some (.cells Tz8 39 (0, 0))) => cpW_run (y := y) hW hy8
      have hby1 := hby W1.drew (show Rs W1.drew b (Td.sIds k x1).2 from HR1.out)
      clear hby
      go_region_with (go_at_call 118; refine hby1.mono ?_; rintro e w2 ⟨rfl, r2, k2⟩; have HK2 : Hid (Kept (fun j => j ≠ b) W1 w2) := ⟨k2.os, k2.tape, k2.output, k2.size, k2.block⟩; have HR2 : Hid (Rs w2 b x2) := r2; have hcp2 := hcp w2 (HK2.out.obj HMb.out HM1.out); clear r2 k2)
      obtain ⟨W3, hW3⟩ : ∃ W3, W3 = cpW w2 M y := ⟨_, rfl⟩
      have hB3 : Below M w2 W3 := by rw [hW3]; exact cpW_below hyf
      have HM3 : Hid (W3.heap[M]? = some (.cells (idC (Td.eight y)).toArray 39 (0, 0))) := by rw [hW3]; exact cpW_cells (HK2.out.obj HMb.out HM1.out) hyf
      have hbM : b < M := by have h1 := HB.out; have h2 := HK.out.size; have h3 := HMe.out; omega
      have HR3 : Hid (Rs W3 b (Td.sIds (k + 1) x1).2) := by rw [hst]; exact (hB3.block b hbM).trans HR2.out
      have o2 : w2.ownsRow w.heap.size 39 8 (.slice so k co) k (rowR idC (Td.sIds k x1).1) := own_kept (own_below HO.out HB1.out) HK2.out fun g hg => by have := (own_block HO.out hg).choose_spec.2.1; have := HB.out; omega
      have o3 : W3.ownsRow w.heap.size 39 8 (.slice so k co) k (rowR idC (Td.sIds k x1).1) := own_kept o2 (Kept.of_below_at (p := fun j => j < M) hB3 fun _ q => q) fun g hg => by have := (own_block HO.out hg).choose_spec.2.2; rw [HMe.out]; exact this
      have HK3 : Hid (Kept (fun j => j ≠ b) w W3) := ((HK.out.trans (Kept.of_below HB1.out)).trans HK2.out).then hB3 (by rw [HMe.out]; exact HK.out.size)
      have hsz3 : w.heap.size ≤ W3.heap.size := HK3.out.size
      obtain ⟨b0, b1, b2, b3, b4, b5, b6, b7, hE8⟩ : ∃ b0 b1 b2 b3 b4 b5 b6 b7, Td.eight y = [b0, b1, b2, b3, b4, b5, b6, b7] := by
        have h8 := Td.eight_len hy8
        match Td.eight y, h8 with
        | [b0, b1, b2, b3, b4, b5, b6, b7], _ => exact ⟨b0, b1, b2, b3, b4, b5, b6, b7, rfl⟩
      have HId : Hid ((Td.sIds (k + 1) x1).1 = (Td.sIds k x1).1 ++ [[b0, b1, b2, b3, b4, b5, b6, b7]]) := by show _ = _; rw [hst, hE8]
      rw [hE8] at HM3
      have z0 : W3.cell? ⟨M, 0, none⟩ = some (.int .u8 (b0.toNat : Int)) := by rw [cell_of_row _ M 0 _ _ _ HM3.out]; rfl
      have z1 : W3.cell? ⟨M, 1, none⟩ = some (.int .u8 (b1.toNat : Int)) := by rw [cell_of_row _ M 1 _ _ _ HM3.out]; rfl
      have z2 : W3.cell? ⟨M, 2, none⟩ = some (.int .u8 (b2.toNat : Int)) := by rw [cell_of_row _ M 2 _ _ _ HM3.out]; rfl
      have z3 : W3.cell? ⟨M, 3, none⟩ = some (.int .u8 (b3.toNat : Int)) := by rw [cell_of_row _ M 3 _ _ _ HM3.out]; rfl
      have z4 : W3.cell? ⟨M, 4, none⟩ = some (.int .u8 (b4.toNat : Int)) := by rw [cell_of_row _ M 4 _ _ _ HM3.out]; rfl
      have z5 : W3.cell? ⟨M, 5, none⟩ = some (.int .u8 (b5.toNat : Int)) := by rw [cell_of_row _ M 5 _ _ _ HM3.out]; rfl
      have z6 : W3.cell? ⟨M, 6, none⟩ = some (.int .u8 (b6.toNat : Int)) := by rw [cell_of_row _ M 6 _ _ _ HM3.out]; rfl
      have z7 : W3.cell? ⟨M, 7, none⟩ = some (.int .u8 (b7.toNat : Int)) := by rw [cell_of_row _ M 7 _ _ _ HM3.out]; rfl
      rw [← hW3]
      clear hW3 hB3 HM3 HR2 o2 hcp2 HK2 hby1 hcp hst hlk hy8 hyf hE8 HR1 HM1 HB1 HO HK HMe HMb hbM
      obtain ⟨RW, hr⟩ : ∃ RW, rowR idC (Td.sIds k x1).1 = RW := ⟨_, rfl⟩
      have HRW : Hid (rowR idC (Td.sIds k x1).1 = RW) := hr
      rw [hr] at o3
      clear hr
      go_wp2_with (at_builtin; refine wpList_append_own _ rfl (.tmp 13) (.tmp 15) 102 rfl w.heap.size 39 i0 (.agg Tz8) 8 8 Tryz.underlying102 hi hz0 hz1 hz2 rfl (by decide) _ _ _ rfl (o3.alloc _) ⟨W3.heap.size, 0, none⟩ 1 1 [.int .u8 (b0.toNat : Int), .int .u8 (b1.toNat : Int), .int .u8 (b2.toNat : Int), .int .u8 (b3.toNat : Int), .int .u8 (b4.toNat : Int), .int .u8 (b5.toNat : Int), .int .u8 (b6.toNat : Int), .int .u8 (b7.toNat : Int)] rfl rfl (tg_new8 W3 _ _ _ _ _ _ _ _) ?c2 ?c3 ?c4 ?c5 ?_)
      case c2 => simp [Value.oneCell']
      case c3 => unfold maxLen; omega
      case c4 => omega
      case c5 => first | omega | (simp; omega)
      intro v6 w5 o5 hgrow _
      have hb3 : Below W3.heap.size W3 (W3.alloc (.cells #[.int .u8 (b0.toNat : Int), .int .u8 (b1.toNat : Int), .int .u8 (b2.toNat : Int), .int .u8 (b3.toNat : Int), .int .u8 (b4.toNat : Int), .int .u8 (b5.toNat : Int), .int .u8 (b6.toNat : Int), .int .u8 (b7.toNat : Int)] 39)) := (Below.refl _ W3).alloc (Nat.le_refl _) _
      have hlt3 : ∀ g, (Value.slice so k co).ownBlock = some g → w.heap.size ≤ g := fun g hg => (own_block o3 hg).choose_spec.2.1
      have HO5 : Hid (w5.ownsRow w.heap.size 39 8 v6 (k + 1) (rowR idC (Td.sIds (k + 1) x1).1)) := by
        show World.ownsRow _ _ _ _ _ _ _
        rw [HId.out, rowR_more, HRW.out]
        exact o5
      have HR5 : Hid (Rs w5 b (Td.sIds (k + 1) x1).2) := by
        refine (hgrow.block b (Nat.lt_of_lt_of_le HR3.out.lt hb3.size) fun e => ?_).trans (HR3.out.past hb3)
        have := hlt3 b e.symm
        have := HB.out
        omega
      have HK5 : Hid (Kept (fun j => j ≠ b) w w5) := by
        have hz : Kept (fun j => j ≠ b) w (W3.alloc (.cells #[.int .u8 (b0.toNat : Int), .int .u8 (b1.toNat : Int), .int .u8 (b2.toNat : Int), .int .u8 (b3.toNat : Int), .int .u8 (b4.toNat : Int), .int .u8 (b5.toNat : Int), .int .u8 (b6.toNat : Int), .int .u8 (b7.toNat : Int)] 39)) := HK3.out.alloc _
        exact ⟨hgrow.os.trans hz.os, hgrow.tape.trans hz.tape, hgrow.output.trans hz.output, Nat.le_trans hz.size hgrow.size, fun j hj hp => (hgrow.block j (Nat.lt_of_lt_of_le hj hz.size) fun e => by have := hlt3 j e.symm; omega).trans (hz.block j hj hp)⟩
      clear o5 hgrow o3 hb3 hlt3 HR3 HK3 HId HRW z0 z1 z2 z3 z4 z5 z6 z7
      go_wp2_with fail
      go_roundw
      case measure => simp only [intOf]; omega
      case rel => exact ⟨k + 1, by omega, by go_num, HR5, HO5, HK5⟩
    · obtain rfl : k = np := by omega
      have HLk : Hid ((Td.sIds k x1).1.length = k) := HLn.out k
      go_wp2_with fail
      go_ret
      exact ⟨_, rfl, by rw [HLk.out]; exact HO.out, HR.out, HK.out⟩
end Go.Proofs.YthpcbbkpjggjbaaGreatDoor
namespace Go.Proofs.YthpcbbkpjggjbaaGreatDoor
open Go.RowKit
set_option maxRecDepth 4000
structure R3 (w W : World) (br b : Nat) (x0 x1 x2 x3 x4 x5 x6 : Value) : Prop where
  res : W.heap[b]? = some (.cells #[.string ⟨#[]⟩, .int .i64 0, .int .i64 0, .int .i64 0, .int .i64 0, .slice none 0 0, .string ⟨#[]⟩] 104 (0, 0))
  str : W.heap[b + 1]? = some (.cells #[x0, x1, x2, x3, x4, x5, x6] 104 (0, 0))
  kept : Kept (fun j => j ≠ br) w W
  at_ : w.heap.size = b
  lt : br < b
section
variable {w W W' : World} {br b : Nat} {x0 x1 x2 x3 x4 x5 x6 y : Value} {x : Td.St}
theorem R3.past (h : R3 w W br b x0 x1 x2 x3 x4 x5 x6) (hk : Kept (fun j => j ≠ br) W W') : R3 w W' br b x0 x1 x2 x3 x4 x5 x6 :=
  ⟨hk.obj (by have := h.lt; omega) h.res, hk.obj (by have := h.lt; omega) h.str, h.kept.trans hk, h.at_, h.lt⟩
theorem R3.setAt (h : R3 w W br b x0 x1 x2 x3 x4 x5 x6) (j : Nat) (y : Value) {y0 y1 y2 y3 y4 y5 y6 : Value} (e : (#[x0, x1, x2, x3, x4, x5, x6] : Array Value).setIfInBounds j y = #[y0, y1, y2, y3, y4, y5, y6]) :
    R3 w (W.setCell ⟨b + 1, j, none⟩ y) br b y0 y1 y2 y3 y4 y5 y6 := by
  refine ⟨?_, ?_, h.kept.then ((Below.refl (b + 1) W).setCell (p := ⟨b + 1, j, none⟩) (Nat.le_refl _) _) (by have := h.at_; omega), h.at_, h.lt⟩
  · rw [Below.heap_setCell _ _ _ _ (by simp)]; exact h.res
  · rw [← e]
    simp [World.setCell, Array.getElem?_modify, h.str]
theorem R3.rs (h : R3 w W br b x0 x1 x2 x3 x4 x5 x6) (hr : Rs W br x) (j : Nat) (y : Value) : Rs (W.setCell ⟨b + 1, j, none⟩ y) br x := by
  unfold Rs
  rw [Below.heap_setCell _ _ _ _ (by have := h.lt; simp; omega)]
  exact hr
end
def NoOut (br : Nat) (w : World) (x : Td.St) (e : Ending) (w' : World) : Prop :=
  ∃ (n : Nod) (v : Value), e = .returned (ndV n v) ∧ n.nd = (Td.sNode x).1 ∧ w'.ownsRow w.heap.size 39 8 v n.parts.length (rowR idC n.parts) ∧ n.Ok ∧ Rs w' br (Td.sNode x).2 ∧ Kept (fun j => j ≠ br) w w'
set_option maxHeartbeats 8000000 in
set_option maxRecDepth 10000 in
theorem rdnode_any (br : Nat) (x : Td.St) (w : World) (h : Rs w br x) (hx : x.1.length ≤ 1048576) :
    Calls Tryz.prog 84 #[.pointer (some ⟨br, 0, none⟩)] w (NoOut br w x) := by
  unfold NoOut
  obtain ⟨R, hR⟩ : ∃ R, Td.sNode x = R := ⟨_, rfl⟩
  have HR : Hid (Td.sNode x = R) := hR
  rw [hR]
  clear hR
  obtain ⟨W0, hW0⟩ : ∃ W0, W0 = (w.alloc (.cells #[.string ⟨#[]⟩, .int .i64 0, .int .i64 0, .int .i64 0, .int .i64 0, .slice none 0 0, .string ⟨#[]⟩] 104)).alloc (.cells #[.string ⟨#[]⟩, .int .i64 0, .int .i64 0, .int .i64 0, .int .i64 0, .slice none 0 0, .string ⟨#[]⟩] 104) := ⟨_, rfl⟩
  have hB0 : Below w.heap.size w W0 := by rw [hW0]; exact ((Below.refl _ w).alloc (Nat.le_refl _) _).alloc (by simp) _
  have HA : Hid (R3 w W0 br w.heap.size (.string ⟨#[]⟩) (.int .i64 0) (.int .i64 0) (.int .i64 0) (.int .i64 0) (.slice none 0 0) (.string ⟨#[]⟩)) := by
    refine ⟨?_, ?_, Kept.of_below hB0, rfl, h.lt⟩
    · rw [hW0]
      exact ((Below.refl _ (w.alloc (.cells #[.string ⟨#[]⟩, .int .i64 0, .int .i64 0, .int .i64 0, .int .i64 0, .slice none 0 0, .string ⟨#[]⟩] 104))).alloc (Nat.le_refl _) _).block w.heap.size (by simp) ▸ heap_alloc_new w _
    · rw [hW0]
      have := heap_alloc_new (w.alloc (.cells #[.string ⟨#[]⟩, .int .i64 0, .int .i64 0, .int .i64 0, .int .i64 0, .slice none 0 0, .string ⟨#[]⟩] 104)) (.cells #[.string ⟨#[]⟩, .int .i64 0, .int .i64 0, .int .i64 0, .int .i64 0, .slice none 0 0, .string ⟨#[]⟩] 104)
      simpa using this
  have HRs : Hid (Rs W0 br x) := h.past hB0
  clear hB0 h
  obtain ⟨b, hb⟩ : ∃ b, b = w.heap.size := ⟨_, rfl⟩
  have HWb : Hid (b = w.heap.size) := hb
  rw [← hb] at HA
  go_enter Tryz.func84, Tryz.ntmps84
  go_upto_region 2 with fail
  rw [← hW0, ← hb]
  clear hW0 hb
  have hcall := rdtext_any br x W0 HRs.out hx
  have hbd0 := Td.sTxt_bd x
  have hln := Td.sTxt_len x
  unfold RsOut at hcall
  rcases hE : Td.sTxt x with ⟨t0, x1⟩
  rw [hE] at hcall hbd0 hln
  have HE0 : Hid (Td.sTxt x = (t0, x1)) := hE
  replace hx : x1.1.length ≤ 1048576 := Nat.le_trans hln hx
  dsimp only at hcall hbd0
  clear hE hln
  go_wp2_with fail
  refine hcall.mono ?_
  rintro e w1 ⟨rfl, r0, k0⟩
  have HP := HA.out.past k0
  obtain ⟨c_0, c_1, c_2, c_3, c_4, c_5, c_6⟩ := seven_at HP.str
  obtain ⟨z_0, z_1, z_2, z_3, z_4, z_5, z_6⟩ := seven_fz HP.str
  obtain ⟨WN, hWN⟩ : ∃ WN, WN = w1.setCell ⟨b + 1, 0, none⟩ (.string ⟨t0.toArray⟩) := ⟨_, rfl⟩
  have HA' : Hid (R3 w WN br b (.string ⟨t0.toArray⟩) (.int .i64 0) (.int .i64 0) (.int .i64 0) (.int .i64 0) (.slice none 0 0) (.string ⟨#[]⟩)) := by rw [hWN]; exact HP.setAt 0 _ rfl
  have HRs' : Hid (Rs WN br x1) := by rw [hWN]; exact HP.rs r0 0 _
  clear HP hcall HA HRs r0 k0
  go_upto_region 3 with fail
  rw [← hWN]
  clear hWN c_0 c_1 c_2 c_3 c_4 c_5 c_6 z_0 z_1 z_2 z_3 z_4 z_5 z_6 w1
  have HA := HA'
  have HRs := HRs'
  clear HA' HRs'
  generalize WN = V1 at *
  have hcall := rdkind_any br x1 V1 HRs.out hx
  have hbd1 := Td.sKind_bd x1
  have hln := Td.sKind_len x1
  unfold RsOut at hcall
  rcases hE : Td.sKind x1 with ⟨t1, x2⟩
  rw [hE] at hcall hbd1 hln
  have HE1 : Hid (Td.sKind x1 = (t1, x2)) := hE
  replace hx : x2.1.length ≤ 1048576 := Nat.le_trans hln hx
  dsimp only at hcall hbd1
  clear hE hln
  go_wp2_with fail
  refine hcall.mono ?_
  rintro e w2 ⟨rfl, r1, k1⟩
  have HP := HA.out.past k1
  obtain ⟨c_0, c_1, c_2, c_3, c_4, c_5, c_6⟩ := seven_at HP.str
  obtain ⟨z_0, z_1, z_2, z_3, z_4, z_5, z_6⟩ := seven_fz HP.str
  obtain ⟨WN, hWN⟩ : ∃ WN, WN = w2.setCell ⟨b + 1, 1, none⟩ (.int .i64 (t1 : Nat)) := ⟨_, rfl⟩
  have HA' : Hid (R3 w WN br b (.string ⟨t0.toArray⟩) (.int .i64 (t1 : Nat)) (.int .i64 0) (.int .i64 0) (.int .i64 0) (.slice none 0 0) (.string ⟨#[]⟩)) := by rw [hWN]; exact HP.setAt 1 _ rfl
  have HRs' : Hid (Rs WN br x2) := by rw [hWN]; exact HP.rs r1 1 _
  clear HP hcall HA HRs r1 k1
  go_upto_region 4 with fail
  rw [← hWN]
  clear hWN c_0 c_1 c_2 c_3 c_4 c_5 c_6 z_0 z_1 z_2 z_3 z_4 z_5 z_6 w2
  have HA := HA'
  have HRs := HRs'
  clear HA' HRs'
  generalize WN = V2 at *
  have hcall := rdnumber_any br 511 x2 V2 HRs.out (by omega) hx
  have hbd2 := Td.sNum_most 511 x2
  have hln := Td.sNum_len 511 x2
  unfold RsOut at hcall
  rcases hE : Td.sNum 511 x2 with ⟨t2, x3⟩
  rw [hE] at hcall hbd2 hln
  have HE2 : Hid (Td.sNum 511 x2 = (t2, x3)) := hE
  replace hx : x3.1.length ≤ 1048576 := Nat.le_trans hln hx
  dsimp only at hcall hbd2
  clear hE hln
  go_wp2_with fail
  refine hcall.mono ?_
  rintro e w3 ⟨rfl, r2, k2⟩
  have HP := HA.out.past k2
  obtain ⟨c_0, c_1, c_2, c_3, c_4, c_5, c_6⟩ := seven_at HP.str
  obtain ⟨z_0, z_1, z_2, z_3, z_4, z_5, z_6⟩ := seven_fz HP.str
  obtain ⟨WN, hWN⟩ : ∃ WN, WN = w3.setCell ⟨b + 1, 2, none⟩ (.int .i64 (t2 : Nat)) := ⟨_, rfl⟩
  have HA' : Hid (R3 w WN br b (.string ⟨t0.toArray⟩) (.int .i64 (t1 : Nat)) (.int .i64 (t2 : Nat)) (.int .i64 0) (.int .i64 0) (.slice none 0 0) (.string ⟨#[]⟩)) := by rw [hWN]; exact HP.setAt 2 _ rfl
  have HRs' : Hid (Rs WN br x3) := by rw [hWN]; exact HP.rs r2 2 _
  clear HP hcall HA HRs r2 k2
  go_upto_region 5 with fail
  rw [← hWN]
  clear hWN c_0 c_1 c_2 c_3 c_4 c_5 c_6 z_0 z_1 z_2 z_3 z_4 z_5 z_6 w3
  have HA := HA'
  have HRs := HRs'
  clear HA' HRs'
  generalize WN = V3 at *
  have hcall := rdsigned_any br x3 V3 HRs.out hx
  have hbd3 := Td.sInt_bd x3
  have hln := Td.sInt_len x3
  unfold RsOut at hcall
  rcases hE : Td.sInt x3 with ⟨t3, x4⟩
  rw [hE] at hcall hbd3 hln
  have HE3 : Hid (Td.sInt x3 = (t3, x4)) := hE
  replace hx : x4.1.length ≤ 1048576 := Nat.le_trans hln hx
  dsimp only at hcall hbd3
  clear hE hln
  go_wp2_with fail
  refine hcall.mono ?_
  rintro e w4 ⟨rfl, r3, k3⟩
  have HP := HA.out.past k3
  obtain ⟨c_0, c_1, c_2, c_3, c_4, c_5, c_6⟩ := seven_at HP.str
  obtain ⟨z_0, z_1, z_2, z_3, z_4, z_5, z_6⟩ := seven_fz HP.str
  obtain ⟨WN, hWN⟩ : ∃ WN, WN = w4.setCell ⟨b + 1, 3, none⟩ (.int .i64 t3) := ⟨_, rfl⟩
  have HA' : Hid (R3 w WN br b (.string ⟨t0.toArray⟩) (.int .i64 (t1 : Nat)) (.int .i64 (t2 : Nat)) (.int .i64 t3) (.int .i64 0) (.slice none 0 0) (.string ⟨#[]⟩)) := by rw [hWN]; exact HP.setAt 3 _ rfl
  have HRs' : Hid (Rs WN br x4) := by rw [hWN]; exact HP.rs r3 3 _
  clear HP hcall HA HRs r3 k3
  go_upto_region 6 with fail
  rw [← hWN]
  clear hWN c_0 c_1 c_2 c_3 c_4 c_5 c_6 z_0 z_1 z_2 z_3 z_4 z_5 z_6 w4
  have HA := HA'
  have HRs := HRs'
  clear HA' HRs'
  generalize WN = V4 at *
  have hcall := rdnumber_any br 4096 x4 V4 HRs.out (by omega) hx
  have hbd4 := Td.sNum_most 4096 x4
  have hln := Td.sNum_len 4096 x4
  unfold RsOut at hcall
  rcases hE : Td.sNum 4096 x4 with ⟨t4, x5⟩
  rw [hE] at hcall hbd4 hln
  have HE4 : Hid (Td.sNum 4096 x4 = (t4, x5)) := hE
  replace hx : x5.1.length ≤ 1048576 := Nat.le_trans hln hx
  dsimp only at hcall hbd4
  clear hE hln
  go_wp2_with fail
  refine hcall.mono ?_
  rintro e w5 ⟨rfl, r4, k4⟩
  have HP := HA.out.past k4
  obtain ⟨c_0, c_1, c_2, c_3, c_4, c_5, c_6⟩ := seven_at HP.str
  obtain ⟨z_0, z_1, z_2, z_3, z_4, z_5, z_6⟩ := seven_fz HP.str
  obtain ⟨WN, hWN⟩ : ∃ WN, WN = w5.setCell ⟨b + 1, 4, none⟩ (.int .i64 (t4 : Nat)) := ⟨_, rfl⟩
  have HA' : Hid (R3 w WN br b (.string ⟨t0.toArray⟩) (.int .i64 (t1 : Nat)) (.int .i64 (t2 : Nat)) (.int .i64 t3) (.int .i64 (t4 : Nat)) (.slice none 0 0) (.string ⟨#[]⟩)) := by rw [hWN]; exact HP.setAt 4 _ rfl
  have HRs' : Hid (Rs WN br x5) := by rw [hWN]; exact HP.rs r4 4 _
  clear HP hcall HA HRs r4 k4
  go_upto_region 7 with fail
  rw [← hWN]
  clear hWN c_0 c_1 c_2 c_3 c_4 c_5 c_6 z_0 z_1 z_2 z_3 z_4 z_5 z_6 w5
  have HA := HA'
  have HRs := HRs'
  clear HA' HRs'
  generalize WN = V5 at *
  have hcall := rdparts_any br x5 V5 HRs.out hx
  have hbd5 := Td.sParts_bd x5
  have hln := Td.sParts_len x5
  unfold PtOut at hcall
  rcases hE : Td.sParts x5 with ⟨t5, x6⟩
  rw [hE] at hcall hbd5 hln
  have HE5 : Hid (Td.sParts x5 = (t5, x6)) := hE
  replace hx : x6.1.length ≤ 1048576 := Nat.le_trans hln hx
  dsimp only at hcall hbd5
  clear hE hln
  go_wp2_with fail
  refine hcall.mono ?_
  rintro e w6 ⟨v5, rfl, o5, r5, k5⟩
  obtain ⟨a5, c5, rfl⟩ := own_len o5
  have HO : Hid (w6.ownsRow (b + 2) 39 8 (.slice a5 t5.length c5) t5.length (rowR idC t5)) := own_lower o5 (Array.getElem?_eq_some_iff.1 HA.out.str).1
  have HP := HA.out.past k5
  obtain ⟨c_0, c_1, c_2, c_3, c_4, c_5, c_6⟩ := seven_at HP.str
  obtain ⟨z_0, z_1, z_2, z_3, z_4, z_5, z_6⟩ := seven_fz HP.str
  obtain ⟨WN, hWN⟩ : ∃ WN, WN = w6.setCell ⟨b + 1, 5, none⟩ (.slice a5 t5.length c5) := ⟨_, rfl⟩
  have HA' : Hid (R3 w WN br b (.string ⟨t0.toArray⟩) (.int .i64 (t1 : Nat)) (.int .i64 (t2 : Nat)) (.int .i64 t3) (.int .i64 (t4 : Nat)) (.slice a5 t5.length c5) (.string ⟨#[]⟩)) := by rw [hWN]; exact HP.setAt 5 _ rfl
  have HRs' : Hid (Rs WN br x6) := by rw [hWN]; exact HP.rs r5 5 _
  have HO' : Hid (WN.ownsRow (b + 2) 39 8 (.slice a5 t5.length c5) t5.length (rowR idC t5)) := by rw [hWN]; exact own_kept HO.out ((Kept.refl (fun k => k ≠ b + 1) _).setCell (by simp) _) fun g hg => by have := own_ge HO.out hg; omega
  clear HP hcall HA HRs r5 k5 HO o5
  go_upto_region 8 with fail
  rw [← hWN]
  clear hWN c_0 c_1 c_2 c_3 c_4 c_5 c_6 z_0 z_1 z_2 z_3 z_4 z_5 z_6 w6
  have HA := HA'
  have HRs := HRs'
  clear HA' HRs'
  have HO := HO'
  clear HO'
  generalize WN = V6 at *
  have hcall := rdtext_any br x6 V6 HRs.out hx
  have hbd6 := Td.sTxt_bd x6
  have hln := Td.sTxt_len x6
  unfold RsOut at hcall
  rcases hE : Td.sTxt x6 with ⟨t6, x7⟩
  rw [hE] at hcall hbd6 hln
  have HE6 : Hid (Td.sTxt x6 = (t6, x7)) := hE
  replace hx : x7.1.length ≤ 1048576 := Nat.le_trans hln hx
  dsimp only at hcall hbd6
  clear hE hln
  go_wp2_with fail
  refine hcall.mono ?_
  rintro e w7 ⟨rfl, r6, k6⟩
  have HO6 : Hid (w7.ownsRow (b + 2) 39 8 (.slice a5 t5.length c5) t5.length (rowR idC t5)) := own_kept HO.out k6 fun g hg => by have := own_ge HO.out hg; have := HA.out.lt; omega
  have HP := HA.out.past k6
  obtain ⟨c_0, c_1, c_2, c_3, c_4, c_5, c_6⟩ := seven_at HP.str
  obtain ⟨z_0, z_1, z_2, z_3, z_4, z_5, z_6⟩ := seven_fz HP.str
  obtain ⟨WN, hWN⟩ : ∃ WN, WN = w7.setCell ⟨b + 1, 6, none⟩ (.string ⟨t6.toArray⟩) := ⟨_, rfl⟩
  have HA' : Hid (R3 w WN br b (.string ⟨t0.toArray⟩) (.int .i64 (t1 : Nat)) (.int .i64 (t2 : Nat)) (.int .i64 t3) (.int .i64 (t4 : Nat)) (.slice a5 t5.length c5) (.string ⟨t6.toArray⟩)) := by rw [hWN]; exact HP.setAt 6 _ rfl
  have HRs' : Hid (Rs WN br x7) := by rw [hWN]; exact HP.rs r6 6 _
  have HO' : Hid (WN.ownsRow (b + 2) 39 8 (.slice a5 t5.length c5) t5.length (rowR idC t5)) := by rw [hWN]; exact own_kept HO6.out ((Kept.refl (fun k => k ≠ b + 1) _).setCell (by simp) _) fun g hg => by have := own_ge HO6.out hg; omega
  clear HP hcall HA HRs r6 k6 HO HO6
  go_upto_region 9 with fail
  rw [← hWN]
  clear hWN c_0 c_1 c_2 c_3 c_4 c_5 c_6 z_0 z_1 z_2 z_3 z_4 z_5 z_6 w7
  have HA := HA'
  have HRs := HRs'
  clear HA' HRs'
  have HO := HO'
  clear HO'
  generalize WN = V7 at *
  obtain ⟨m0, m1, m2, m3, m4, m5, m6⟩ := seven_at HA.out.str
  obtain ⟨r0, r1, r2, r3, r4, r5, r6⟩ := seven_at HA.out.res
  obtain ⟨f0, f1, f2, f3, f4, f5, f6⟩ := seven_fz HA.out.res
  have HSv : Hid ((((((((V7.setCell ⟨b, 0, none⟩ (.string ⟨t0.toArray⟩)).setCell ⟨b, 1, none⟩ (.int .i64 (t1 : Nat))).setCell ⟨b, 2, none⟩ (.int .i64 (t2 : Nat))).setCell ⟨b, 3, none⟩ (.int .i64 t3)).setCell ⟨b, 4, none⟩ (.int .i64 (t4 : Nat))).setCell ⟨b, 5, none⟩ (.slice a5 t5.length c5)).setCell ⟨b, 6, none⟩ (.string ⟨t6.toArray⟩)).heap[b]? = some (.cells #[.string ⟨t0.toArray⟩, .int .i64 (t1 : Nat), .int .i64 (t2 : Nat), .int .i64 t3, .int .i64 (t4 : Nat), .slice a5 t5.length c5, .string ⟨t6.toArray⟩] 104 (0, 0))) := set_seven HA.out.res _ _ _ _ _ _ _
  have HKf : Hid (Kept (fun j => j ≠ b) V7 (((((((V7.setCell ⟨b, 0, none⟩ (.string ⟨t0.toArray⟩)).setCell ⟨b, 1, none⟩ (.int .i64 (t1 : Nat))).setCell ⟨b, 2, none⟩ (.int .i64 (t2 : Nat))).setCell ⟨b, 3, none⟩ (.int .i64 t3)).setCell ⟨b, 4, none⟩ (.int .i64 (t4 : Nat))).setCell ⟨b, 5, none⟩ (.slice a5 t5.length c5)).setCell ⟨b, 6, none⟩ (.string ⟨t6.toArray⟩))) := kept7 V7 b _ _ _ _ _ _ _
  have hlt := HA.out.lt
  have HFin : Hid (((((((((V7.setCell ⟨b, 0, none⟩ (.string ⟨t0.toArray⟩)).setCell ⟨b, 1, none⟩ (.int .i64 (t1 : Nat))).setCell ⟨b, 2, none⟩ (.int .i64 (t2 : Nat))).setCell ⟨b, 3, none⟩ (.int .i64 t3)).setCell ⟨b, 4, none⟩ (.int .i64 (t4 : Nat))).setCell ⟨b, 5, none⟩ (.slice a5 t5.length c5)).setCell ⟨b, 6, none⟩ (.string ⟨t6.toArray⟩)).ownsRow w.heap.size 39 8 (.slice a5 t5.length c5) t5.length (rowR idC t5)) ∧ Rs (((((((V7.setCell ⟨b, 0, none⟩ (.string ⟨t0.toArray⟩)).setCell ⟨b, 1, none⟩ (.int .i64 (t1 : Nat))).setCell ⟨b, 2, none⟩ (.int .i64 (t2 : Nat))).setCell ⟨b, 3, none⟩ (.int .i64 t3)).setCell ⟨b, 4, none⟩ (.int .i64 (t4 : Nat))).setCell ⟨b, 5, none⟩ (.slice a5 t5.length c5)).setCell ⟨b, 6, none⟩ (.string ⟨t6.toArray⟩)) br x7 ∧ Kept (fun j => j ≠ br) w (((((((V7.setCell ⟨b, 0, none⟩ (.string ⟨t0.toArray⟩)).setCell ⟨b, 1, none⟩ (.int .i64 (t1 : Nat))).setCell ⟨b, 2, none⟩ (.int .i64 (t2 : Nat))).setCell ⟨b, 3, none⟩ (.int .i64 t3)).setCell ⟨b, 4, none⟩ (.int .i64 (t4 : Nat))).setCell ⟨b, 5, none⟩ (.slice a5 t5.length c5)).setCell ⟨b, 6, none⟩ (.string ⟨t6.toArray⟩))) := by
    refine ⟨own_lower (own_kept HO.out HKf.out fun g hg => by have := own_ge HO.out hg; omega) (by rw [← HWb.out]; omega), HKf.out.obj (by omega) HRs.out, ?_⟩
    exact ⟨HKf.out.os.trans HA.out.kept.os, HKf.out.tape.trans HA.out.kept.tape, HKf.out.output.trans HA.out.kept.output, Nat.le_trans HA.out.kept.size HKf.out.size, fun j hj hp => (HKf.out.block j (Nat.lt_of_lt_of_le hj HA.out.kept.size) (by have := HWb.out; omega)).trans (HA.out.kept.block j hj hp)⟩
  have HNd : Hid (R = (⟨t0, (t1 : Nat), (t2 : Nat), t3, (t4 : Nat), t5, t6⟩, x7)) := by
    show _ = _
    rw [← HR.out, Td.sNode, HE0.out]
    simp only [HE1.out, HE2.out, HE3.out, HE4.out, HE5.out, HE6.out]
  have HOk : Hid (Nod.Ok ⟨⟨t0.toArray⟩, (t1 : Nat), (t2 : Nat), t3, (t4 : Nat), t5, ⟨t6.toArray⟩⟩) := ⟨wf_i (n := (t1 : Nat)) (by omega) (by omega), wf_i (n := (t2 : Nat)) (by omega) (by omega), wf_i hbd3.1 hbd3.2, wf_i (n := (t4 : Nat)) (by omega) (by omega), by show ByteArray.size _ ≤ _; rw [tg_size]; omega, by show ByteArray.size _ ≤ _; rw [tg_size]; omega, hbd5.2⟩
  clear HKf HA HRs HO HE0 HE1 HE2 HE3 HE4 HE5 HE6 HR hbd0 hbd1 hbd2 hbd3 hbd4 hbd5 hbd6 hx
  go_wp2_with fail
  obtain ⟨WF, hWF⟩ : ∃ WF, WF = (((((((V7.setCell ⟨b, 0, none⟩ (.string ⟨t0.toArray⟩)).setCell ⟨b, 1, none⟩ (.int .i64 (t1 : Nat))).setCell ⟨b, 2, none⟩ (.int .i64 (t2 : Nat))).setCell ⟨b, 3, none⟩ (.int .i64 t3)).setCell ⟨b, 4, none⟩ (.int .i64 (t4 : Nat))).setCell ⟨b, 5, none⟩ (.slice a5 t5.length c5)).setCell ⟨b, 6, none⟩ (.string ⟨t6.toArray⟩)) := ⟨_, rfl⟩
  rw [← hWF] at HFin HSv ⊢
  obtain ⟨q0, q1, q2, q3, q4, q5, q6⟩ := seven_at HSv.out
  refine bodyPost_ret (v := .agg #[.string ⟨t0.toArray⟩, .int .i64 (t1 : Nat), .int .i64 (t2 : Nat), .int .i64 t3, .int .i64 (t4 : Nat), .slice a5 t5.length c5, .string ⟨t6.toArray⟩]) ?_ rfl ⟨⟨⟨t0.toArray⟩, (t1 : Nat), (t2 : Nat), t3, (t4 : Nat), t5, ⟨t6.toArray⟩⟩, .slice a5 t5.length c5, rfl, by rw [HNd.out]; rfl, HFin.out.1, HOk.out, by rw [HNd.out]; exact HFin.out.2.1, HFin.out.2.2⟩
  simp [results, asAddr, go_sem, q0, q1, q2, q3, q4, q5, q6]
end Go.Proofs.YthpcbbkpjggjbaaGreatDoor
namespace Go.Proofs.YthpcbbkpjggjbaaGreatDoor
open Go.RowKit
set_option maxRecDepth 4000
set_option maxHeartbeats 400000 in
theorem num_put (n : Int) (w : World) (n0 : 0 ≤ n) (n1 : n ≤ 18446744073709551615) :
    Calls Tryz.prog 78 #[.int .u64 n] w fun e w' => e = .returned (.string ⟨(Nm.put n.toNat).toArray⟩) ∧ Below w.heap.size w w' := by
  have hl := Nm.dig_length_le n.toNat
  go_enter Tryz.func78, Tryz.ntmps78
  go_wp2_with (go_at_call 98; refine (count_any _ _ n0 n1).mono ?_; rintro e w' ⟨rfl, rfl⟩)
  refine (digits_app w'.heap.size _ [UInt8.ofNat ((Nm.dig n.toNat).length : Int).toNat] n _ 0 _ (owns_one _ _ (by omega) (by omega)) (by simp) (by simp) n0 n1 (by omega) (by omega) (by omega) (by omega)).mono ?_
  rintro e w2 ⟨v, rfl, hown, hbel⟩
  have hcv := run_str hown
  have hb : Below w'.heap.size w' w2 := ((Below.refl _ _).alloc (Nat.le_refl _) _).trans hbel
  clear hown hbel
  go_wp2
  go_ret
  exact ⟨by simp [Nm.put, Nm.tn_zero, Nm.dig_low], hb⟩
end Go.Proofs.YthpcbbkpjggjbaaGreatDoor
namespace Go.Proofs.YthpcbbkpjggjbaaGreatDoor
open Go.RowKit
set_option maxRecDepth 4000
set_option maxHeartbeats 400000 in
theorem putI_any (n : Int) (w : World) (n0 : -9223372036854775808 ≤ n) (n1 : n ≤ 9223372036854775807) :
    Calls Tryz.prog 80 #[.int .i64 n] w fun e w' => e = .returned (.string ⟨(Nm.putI n).toArray⟩) ∧ Below w.heap.size w w' := by
  by_cases h : n < 0
  · have hl := Nm.dig_length_le (-1 - n).toNat
    have hp : Hid (Nm.putI n = [UInt8.ofNat (127 - ((Nm.dig (-1 - n).toNat).length : Int)).toNat] ++ Nm.tn (255 : Int).toNat (Nm.low ((Nm.dig (-1 - n).toNat).length : Int).toNat (-1 - n).toNat)) := by
      show _ = _
      rw [Nm.putI, if_pos h, Int.toNat_natCast, Nm.dig_low, show (127 - ((Nm.dig (-1 - n).toNat).length : Int)).toNat = 127 - (Nm.dig (-1 - n).toNat).length from by omega]
      rfl
    go_enter Tryz.func80, Tryz.ntmps80
    go_wp2_with (go_at_call 98; refine (count_any (-1 - n) _ (by omega) (by omega)).mono ?_; rintro e w' ⟨rfl, rfl⟩)
    refine (digits_app w'.heap.size _ [UInt8.ofNat (127 - ((Nm.dig (-1 - n).toNat).length : Int)).toNat] _ _ 255 _ (owns_one _ _ (by omega) (by omega)) (by simp) (by simp) (by omega) (by omega) (by omega) (by omega) (by omega) (by omega)).mono ?_
    rintro e w2 ⟨v, rfl, hown, hbel⟩
    rw [← hp.out] at hown
    have hcv := run_str hown
    have hb : Below w'.heap.size w' w2 := ((Below.refl _ _).alloc (Nat.le_refl _) _).trans hbel
    clear hown hbel
    go_wp2
    go_ret
    exact ⟨rfl, hb⟩
  · have hl := Nm.dig_length_le n.toNat
    have hp : Hid (Nm.putI n = [UInt8.ofNat (128 + ((Nm.dig n.toNat).length : Int)).toNat] ++ Nm.tn (0 : Int).toNat (Nm.low ((Nm.dig n.toNat).length : Int).toNat n.toNat)) := by
      show _ = _
      rw [Nm.putI, if_neg h, Int.toNat_natCast, Nm.dig_low, show (128 + ((Nm.dig n.toNat).length : Int)).toNat = 128 + (Nm.dig n.toNat).length from by omega]
      rw [show (0 : Int).toNat = 0 from rfl, Nm.tn_zero]
      rfl
    go_enter Tryz.func80, Tryz.ntmps80
    go_wp2_with (go_at_call 98; refine (count_any n _ (by omega) (by omega)).mono ?_; rintro e w' ⟨rfl, rfl⟩)
    refine (digits_app w'.heap.size _ [UInt8.ofNat (128 + ((Nm.dig n.toNat).length : Int)).toNat] _ _ 0 _ (owns_one _ _ (by omega) (by omega)) (by simp) (by simp) (by omega) (by omega) (by omega) (by omega) (by omega) (by omega)).mono ?_
    rintro e w2 ⟨v, rfl, hown, hbel⟩
    rw [← hp.out] at hown
    have hcv := run_str hown
    have hb : Below w'.heap.size w' w2 := ((Below.refl _ _).alloc (Nat.le_refl _) _).trans hbel
    clear hown hbel
    go_wp2
    go_ret
    exact ⟨rfl, hb⟩
end Go.Proofs.YthpcbbkpjggjbaaGreatDoor
namespace Go.Proofs.YthpcbbkpjggjbaaGreatDoor
open Go.RowKit
set_option maxRecDepth 4000
theorem tput9 (n : Nat) : (Nm.put n).length ≤ 9 := Nm.put_length n
theorem tg_apart {base n G : Nat} {v : Value} {xs : List Value} {W : World} {cs : Array Value} {T : TypeId} {fr : Nat × Nat} (h : W.ownsRow base 5 1 v n xs) (hG : W.heap[G]? = some (.cells cs T fr)) (hT : T ≠ 5) : v.ownBlock ≠ some G := by
  intro e
  obtain ⟨cur, hh, _⟩ := own_block h e
  rw [hG, Option.some.injEq, Obj.cells.injEq] at hh
  exact hT hh.2.1
def ApOut (base : Nat) (v : Value) (xs ys : List UInt8) (w : World) (e : Ending) (w' : World) : Prop :=
  ∃ v', e = .returned v' ∧ w'.ownsRow base 5 1 v' (xs ++ ys).length ((xs ++ ys).map B) ∧ Below base w w' ∧ Kept (fun k => v.ownBlock ≠ some k) w w'
set_option maxHeartbeats 1000000 in
theorem tnum_any (base : Nat) (v : Value) (xs : List UInt8) (n : Nat) (w : World) (hown : w.ownsRow base 5 1 v xs.length (xs.map B)) (hb : base ≤ w.heap.size) (hx : xs.length ≤ 1048576) (hn : n ≤ 1099511627776) :
    Calls Tryz.prog 64 #[v, .int .i64 n] w (ApOut base v xs (Nm.put n) w) := by
  unfold ApOut
  obtain ⟨i0, hi, hz0, hz1, hz2⟩ := info_of' info_u8
  obtain ⟨a, c, rfl⟩ := own_len hown
  have hp := num_put n w (by omega) (by omega)
  rw [Int.toNat_natCast] at hp
  have hl := Nm.dig_length_le n
  go_enter Tryz.func64, Tryz.ntmps64
  go_wp2_with fail
  refine hp.mono ?_
  rintro e w1 ⟨rfl, hb1⟩
  have hown1 := own_below hown hb1
  have hB1 : Below base w w1 := hb1.mono hb
  have hs1 := hB1.size
  have hpl : (Nm.put n).length ≤ 9 := tput9 n
  have HPS : Hid ((⟨(Nm.put n).toArray⟩ : ByteArray).size = (Nm.put n).length) := by show (Nm.put n).toArray.size = _; rw [List.size_toArray]
  have HK1 : Hid (Kept (fun k => (Value.slice a xs.length c).ownBlock ≠ some k) w w1) := Kept.of_below hb1
  clear hp hb1 hown
  obtain ⟨S, hS⟩ : ∃ S : ByteArray, (⟨(Nm.put n).toArray⟩ : ByteArray) = S := ⟨_, rfl⟩
  have HS : Hid (Lib.strCells S = (Nm.put n).map B ∧ S.size = (Nm.put n).length) := by rw [← hS]; exact ⟨rfl, HPS.out⟩
  have hSz : S.size ≤ 9 := by rw [HS.out.2]; exact hpl
  rw [hS]
  clear hS HPS hpl
  go_wp2_with (at_builtin; refine Lib.wpList_append_own_string _ rfl (.tmp 5) (.tmp 8) 129 9 rfl base 5 i0 Tryz.underlying129 Tryz.underlying9 hi hz0 hz1 hz2 _ _ _ rfl hown1 S rfl ?c3 ?c4 ?c5 ?_)
  case c3 => unfold maxLen; omega
  case c4 => omega
  case c5 => omega
  intro v1 w3 hown3 hgrow _
  have HO : Hid (w3.ownsRow base 5 1 v1 (xs ++ Nm.put n).length ((xs ++ Nm.put n).map B)) := by
    rw [HS.out.1, HS.out.2] at hown3
    rw [List.length_append, List.map_append]
    exact hown3
  have HB3 : Hid (Below base w w3) := hB1.grown hgrow (by omega) fun j hj => (hown1.lt j hj).1
  have HK3 : Hid (Kept (fun k => (Value.slice a xs.length c).ownBlock ≠ some k) w w3) := HK1.out.grown hgrow fun k hk hp => hp hk
  clear hown3 hgrow hown1 hB1
  go_wp2_with fail
  go_ret
  exact ⟨_, rfl, HO.out, HB3.out, HK3.out⟩
set_option maxHeartbeats 1000000 in
theorem ttext_any (base : Nat) (v : Value) (xs : List UInt8) (s : ByteArray) (w : World) (hown : w.ownsRow base 5 1 v xs.length (xs.map B)) (hb : base ≤ w.heap.size) (hx : xs.length ≤ 1048576) (hn : s.size ≤ 1024) :
    Calls Tryz.prog 79 #[v, .string s] w (ApOut base v xs (Nm.putT s.data.toList) w) := by
  unfold ApOut
  obtain ⟨i0, hi, hz0, hz1, hz2⟩ := info_of' info_u8
  obtain ⟨a, c, rfl⟩ := own_len hown
  have hp := putT_any s w hn
  have hpl : (Nm.putT s.data.toList).length ≤ 2050 := by have := Nm.putT_length s.data.toList; rw [← Lib.size_eq] at this; omega
  obtain ⟨S, hS⟩ : ∃ S : ByteArray, (⟨(Nm.putT s.data.toList).toArray⟩ : ByteArray) = S := ⟨_, rfl⟩
  have HS : Hid (Lib.strCells S = (Nm.putT s.data.toList).map B ∧ S.size = (Nm.putT s.data.toList).length) := by rw [← hS]; exact ⟨rfl, by show (Nm.putT s.data.toList).toArray.size = _; rw [List.size_toArray]⟩
  have hSz : S.size ≤ 2050 := by rw [HS.out.2]; exact hpl
  rw [hS] at hp
  clear hS hpl
  generalize Nm.putT s.data.toList = Y at *
  go_enter Tryz.func79, Tryz.ntmps79
  go_wp2_with fail
  refine hp.mono ?_
  rintro e w1 ⟨rfl, hb1⟩
  have hown1 := own_below hown hb1
  have hB1 : Below base w w1 := hb1.mono hb
  have hs1 := hB1.size
  have HK1 : Hid (Kept (fun k => (Value.slice a xs.length c).ownBlock ≠ some k) w w1) := Kept.of_below hb1
  clear hp hb1 hown
  go_wp2_with (at_builtin; refine Lib.wpList_append_own_string _ rfl (.tmp 12) (.tmp 13) 129 9 rfl base 5 i0 Tryz.underlying129 Tryz.underlying9 hi hz0 hz1 hz2 _ _ _ rfl hown1 S rfl ?c3 ?c4 ?c5 ?_)
  case c3 => unfold maxLen; omega
  case c4 => omega
  case c5 => omega
  intro v1 w3 hown3 hgrow _
  have HO : Hid (w3.ownsRow base 5 1 v1 (xs ++ Y).length ((xs ++ Y).map B)) := by
    rw [HS.out.1, HS.out.2] at hown3
    rw [List.length_append, List.map_append]
    exact hown3
  have HB3 : Hid (Below base w w3) := hB1.grown hgrow (by omega) fun j hj => (hown1.lt j hj).1
  have HK3 : Hid (Kept (fun k => (Value.slice a xs.length c).ownBlock ≠ some k) w w3) := HK1.out.grown hgrow fun k hk hp => hp hk
  clear hown3 hgrow hown1 hB1
  go_wp2_with fail
  go_ret
  exact ⟨_, rfl, HO.out, HB3.out, HK3.out⟩
structure Tw (w0 w W : World) (b : Nat) (cs : Array Value) (v : Value) (S : List UInt8) : Prop where
  node : W.heap[b]? = some (.cells cs 104 (0, 0))
  own : W.ownsRow w0.heap.size 5 1 v S.length (S.map B)
  bel : Below w0.heap.size w W
  size : w0.heap.size ≤ W.heap.size
section
variable {w0 w W W' : World} {b : Nat} {cs : Array Value} {v v' : Value} {S Y : List UInt8} {e : Ending}
theorem Tw.ap (h : Tw w0 w W b cs v S) (ho : W'.ownsRow w0.heap.size 5 1 v' (S ++ Y).length ((S ++ Y).map B)) (hb : Below w0.heap.size W W') (hk : Kept (fun k => v.ownBlock ≠ some k) W W') : Tw w0 w W' b cs v' (S ++ Y) :=
  ⟨hk.obj (tg_apart h.own h.node (by decide)) h.node, ho, h.bel.trans hb, Nat.le_trans h.size hb.size⟩
theorem Tw.past (h : Tw w0 w W b cs v S) (hb : Below W.heap.size W W') : Tw w0 w W' b cs v S :=
  ⟨(hb.block _ (Array.getElem?_eq_some_iff.1 h.node).1).trans h.node, own_below h.own hb, h.bel.trans (hb.mono h.size), Nat.le_trans h.size hb.size⟩
theorem Tw.grow {xs : List Value} {n : Nat} (h : Tw w0 w W b cs v S) (hg : W.grownBy W' v.ownBlock) (ho : W'.ownsRow w0.heap.size 5 1 v' n xs) (hn : n = (S ++ Y).length) (hx : xs = (S ++ Y).map B) : Tw w0 w W' b cs v' (S ++ Y) := by
  subst hn hx
  exact ⟨(hg.block _ (Array.getElem?_eq_some_iff.1 h.node).1 (fun e => tg_apart h.own h.node (by decide) e.symm)).trans h.node, ho, h.bel.grown hg h.size fun j hj => (h.own.lt j hj).1, Nat.le_trans h.size hg.size⟩
end
theorem flat_more {l : List (List UInt8)} {k : Nat} (h : k < l.length) : (l.take (k + 1)).flatten = (l.take k).flatten ++ l[k] := by
  rw [List.take_succ_eq_append_getElem h, List.flatten_append, List.flatten_cons, List.flatten_nil, List.append_nil]
theorem tg_eight {t : List UInt8} (h : t.length = 8) : ∃ b0 b1 b2 b3 b4 b5 b6 b7, t = [b0, b1, b2, b3, b4, b5, b6, b7] := by
  match t, h with
  | [b0, b1, b2, b3, b4, b5, b6, b7], _ => exact ⟨b0, b1, b2, b3, b4, b5, b6, b7, rfl⟩
def AnOut (w0 w : World) (S : List UInt8) (e : Ending) (w' : World) : Prop := ∃ v', e = .returned v' ∧ w'.ownsRow w0.heap.size 5 1 v' S.length (S.map B) ∧ Below w0.heap.size w w'
set_option maxHeartbeats 8000000 in
set_option maxRecDepth 10000 in
theorem tnode_any (w0 w : World) (v : Value) (xs : List UInt8) (name link : ByteArray) (kd md sz : Nat) (time : Int) (parts : List (List UInt8)) (a : Option Addr) (c np : Nat)
    (hB : Below w0.heap.size w0 w) (hown : w.ownsRow w0.heap.size 5 1 v xs.length (xs.map B)) (hx : xs.length ≤ 524288) (hnp : np = parts.length)
    (hP : Rx 8 idC w0 (.slice a np c) parts) (h8 : ∀ p ∈ parts, p.length = 8) (hn : name.size ≤ 1024) (hl : link.size ≤ 1024) (hk : kd ≤ 3) (hm : md ≤ 511) (hz : sz ≤ 4096) (hp : np ≤ 300)
    (ht0 : -9223372036854775808 ≤ time) (ht1 : time ≤ 9223372036854775807) :
    Calls Tryz.prog 65 #[v, .agg #[.string name, .int .i64 (kd : Nat), .int .i64 (md : Nat), .int .i64 time, .int .i64 (sz : Nat), .slice a np c, .string link]] w
      (AnOut w0 w (xs ++ Td.rowT ⟨name.data.toList, (kd : Nat), (md : Nat), time, (sz : Nat), parts, link.data.toList⟩)) := by
  unfold AnOut
  obtain ⟨i0, hi, hz0, hz1, hz2⟩ := info_of' info_u8
  have HRow : Hid (xs ++ Td.rowT ⟨name.data.toList, (kd : Nat), (md : Nat), time, (sz : Nat), parts, link.data.toList⟩ = (((((((xs ++ Nm.putT name.data.toList) ++ [UInt8.ofNat kd]) ++ Nm.put md) ++ Nm.putI time) ++ Nm.put sz) ++ Nm.put np) ++ parts.flatten) ++ Nm.putT link.data.toList) := by
    show _ = _
    rw [hnp]
    simp [Td.rowT]
  generalize xs ++ Td.rowT ⟨name.data.toList, (kd : Nat), (md : Nat), time, (sz : Nat), parts, link.data.toList⟩ = RES at *
  have HPt : Hid (Rx 8 idC w0 (.slice a np c) parts ∧ (∀ p ∈ parts, p.length = 8) ∧ np = parts.length ∧ Below w0.heap.size w0 w) := ⟨hP, h8, hnp, hB⟩
  obtain ⟨av, cv, rfl⟩ := own_len hown
  obtain ⟨W1, hW1⟩ : ∃ W1, W1 = w.alloc (.cells #[.string name, .int .i64 (kd : Nat), .int .i64 (md : Nat), .int .i64 time, .int .i64 (sz : Nat), .slice a np c, .string link] 104) := ⟨_, rfl⟩
  have HW1 : Hid (Tw w0 w W1 w.heap.size #[.string name, .int .i64 (kd : Nat), .int .i64 (md : Nat), .int .i64 time, .int .i64 (sz : Nat), .slice a np c, .string link] (.slice av xs.length cv) xs) := by
    have hb1 : Below w.heap.size w W1 := by rw [hW1]; exact (Below.refl _ w).alloc (Nat.le_refl _) _
    exact ⟨by rw [hW1]; exact heap_alloc_new w _, own_below hown hb1, hb1.mono hB.size, Nat.le_trans hB.size hb1.size⟩
  have htx := fun V s Z W (h1 : W.ownsRow w0.heap.size 5 1 V Z.length (Z.map B)) h2 h3 h4 => ttext_any w0.heap.size V Z s W h1 h2 h3 h4
  have hnu := fun V n Z W (h1 : W.ownsRow w0.heap.size 5 1 V Z.length (Z.map B)) h2 h3 h4 => tnum_any w0.heap.size V Z n W h1 h2 h3 h4
  have hpi := fun W => putI_any time W ht0 ht1
  unfold ApOut at htx hnu
  have hy1 : (Nm.putT name.data.toList).length ≤ 2050 := by have := Nm.putT_length name.data.toList; rw [← Lib.size_eq] at this; omega
  have HY1 : Hid ((Nm.putT link.data.toList).length ≤ 2050) := by have := Nm.putT_length link.data.toList; rw [← Lib.size_eq] at this; show _ ≤ _; omega
  have hy3 := tput9 md
  have hy4 := Nm.putI_length time
  have hy5 := tput9 sz
  have hy6 := tput9 np
  clear hB hown hP h8 hnp
  go_enter Tryz.func65, Tryz.ntmps65
  go_upto_region 1 with fail
  rw [← hW1]
  obtain ⟨b, hb⟩ : ∃ b, b = w.heap.size := ⟨_, rfl⟩
  rw [← hb] at HW1 ⊢
  clear hW1 hb
  obtain ⟨m0, _⟩ := seven_at HW1.out.node
  go_upto_region 2 with (go_at_call 79; refine (htx _ name xs _ HW1.out.own HW1.out.size (by omega) hn).mono ?_; rintro e w2 ⟨v2, rfl, o2, b2, k2⟩)
  have HW2 : Hid (Tw w0 w w2 b #[.string name, .int .i64 (kd : Nat), .int .i64 (md : Nat), .int .i64 time, .int .i64 (sz : Nat), .slice a np c, .string link] v2 (xs ++ Nm.putT name.data.toList)) := HW1.out.ap o2 b2 k2
  clear o2 b2 k2 HW1 m0
  obtain ⟨S1, hS1⟩ : ∃ S1, xs ++ Nm.putT name.data.toList = S1 := ⟨_, rfl⟩
  have hl1 : S1.length ≤ 526400 := by rw [← hS1, List.length_append]; omega
  rw [hS1] at HW2 HRow
  clear hS1 hy1
  obtain ⟨s2, c2, rfl⟩ := own_len HW2.out.own
  -- the kind
  obtain ⟨_, m1, _⟩ := seven_at HW2.out.node
  have hwk : IntKind.u8.wrap (kd : Int) = (kd : Int) := by simp [IntKind.wrap, IntKind.bits, IntKind.signed]; omega
  obtain ⟨W3, hW3⟩ : ∃ W3, W3 = w2.alloc (.cells #[.int .u8 (kd : Int)] 5) := ⟨_, rfl⟩
  have HW3 : Hid (Tw w0 w W3 b #[.string name, .int .i64 (kd : Nat), .int .i64 (md : Nat), .int .i64 time, .int .i64 (sz : Nat), .slice a np c, .string link] (.slice s2 S1.length c2) S1) := by rw [hW3]; exact HW2.out.past ((Below.refl _ w2).alloc (Nat.le_refl _) _)
  have hnews : ∀ j u, ([.int .u8 (kd : Int)] : List Value)[j]? = some u → W3.cell? ((⟨w2.heap.size, 0, none⟩ : Addr).add j) = some u := fun j u hu => by
    rw [hW3, show ((⟨w2.heap.size, 0, none⟩ : Addr).add j) = ⟨w2.heap.size, 0 + j, none⟩ from Addr.add_mid _ _ _, Nat.zero_add, cell_of_row _ w2.heap.size j _ _ _ (heap_alloc_new w2 _)]
    simpa using hu
  have hown3 := HW3.out.own
  have hsz3 := HW3.out.size
  have HM3 : Hid (S1.map B ++ [.int .u8 (kd : Int)] = (S1 ++ [UInt8.ofNat kd]).map B) := by
    show _ = _
    rw [List.map_append]
    congr 1
    show _ = [B (UInt8.ofNat kd)]
    unfold B
    rw [UInt8.toNat_ofNat', Nat.mod_eq_of_lt (by omega)]
  clear HW2
  go_wp2_with (at_builtin; rw [← hW3]; refine wpList_append_own _ rfl (.tmp 11) (.tmp 15) 129 rfl w0.heap.size 5 i0 (.int .u8 0) 1 1 Tryz.underlying129 hi hz0 hz1 hz2 rfl (by decide) _ _ _ rfl hown3 ⟨w2.heap.size, 0, none⟩ 1 1 [.int .u8 (kd : Int)] rfl rfl hnews ?c2 ?c3 ?c4 ?c5 ?_)
  case c2 => intro u hu; rw [List.mem_singleton.1 hu]; rfl
  case c3 => unfold maxLen; omega
  case c4 => omega
  case c5 => exact hsz3
  intro v4 w4 o4 hgrow4 _
  rw [← hW3] at hgrow4
  have HW4 : Hid (Tw w0 w w4 b #[.string name, .int .i64 (kd : Nat), .int .i64 (md : Nat), .int .i64 time, .int .i64 (sz : Nat), .slice a np c, .string link] v4 (S1 ++ [UInt8.ofNat kd])) := HW3.out.grow hgrow4 o4 (by simp) HM3.out
  clear o4 hgrow4 hown3 HW3 hnews hsz3 hW3 m1 HM3 hwk
  obtain ⟨S2, hS2⟩ : ∃ S2, S1 ++ [UInt8.ofNat kd] = S2 := ⟨_, rfl⟩
  have hl2 : S2.length ≤ 526401 := by rw [← hS2, List.length_append, List.length_singleton]; omega
  rw [hS2] at HW4 HRow
  clear hS2
  obtain ⟨s4, c4, rfl⟩ := own_len HW4.out.own
  go_upto_region 3 with fail
  obtain ⟨_, _, m2, _⟩ := seven_at HW4.out.node
  go_upto_region 4 with (go_at_call 64; refine (hnu _ md S2 _ HW4.out.own HW4.out.size (by omega) (by omega)).mono ?_; rintro e w5 ⟨v5, rfl, o5, b5, k5⟩)
  have HW5 : Hid (Tw w0 w w5 b #[.string name, .int .i64 (kd : Nat), .int .i64 (md : Nat), .int .i64 time, .int .i64 (sz : Nat), .slice a np c, .string link] v5 (S2 ++ Nm.put md)) := HW4.out.ap o5 b5 k5
  clear o5 b5 k5 HW4 m2
  obtain ⟨S3, hS3⟩ : ∃ S3, S2 ++ Nm.put md = S3 := ⟨_, rfl⟩
  have hlS3 : S3.length ≤ 526410 := by rw [← hS3, List.length_append]; omega
  rw [hS3] at HW5 HRow
  clear hS3 hy3
  obtain ⟨s5, c5, rfl⟩ := own_len HW5.out.own
  obtain ⟨_, _, _, m3, _⟩ := seven_at HW5.out.node
  obtain ⟨S, hS⟩ : ∃ S : ByteArray, (⟨(Nm.putI time).toArray⟩ : ByteArray) = S := ⟨_, rfl⟩
  have HS : Hid (Lib.strCells S = (Nm.putI time).map B ∧ S.size = (Nm.putI time).length) := by rw [← hS]; exact ⟨rfl, by show (Nm.putI time).toArray.size = _; rw [List.size_toArray]⟩
  have hSz : S.size ≤ 9 := by rw [HS.out.2]; exact hy4
  rw [hS] at hpi
  clear hS
  go_wp2_with fail
  refine (hpi _).mono ?_
  rintro e w6 ⟨rfl, b6⟩
  have HW6 : Hid (Tw w0 w w6 b #[.string name, .int .i64 (kd : Nat), .int .i64 (md : Nat), .int .i64 time, .int .i64 (sz : Nat), .slice a np c, .string link] (.slice s5 S3.length c5) S3) := HW5.out.past b6
  have hown6 := HW6.out.own
  have hsz6 := HW6.out.size
  clear b6 HW5 hpi m3
  go_wp2_with (at_builtin; refine Lib.wpList_append_own_string _ rfl (.tmp 21) (.tmp 24) 129 9 rfl w0.heap.size 5 i0 Tryz.underlying129 Tryz.underlying9 hi hz0 hz1 hz2 _ _ _ rfl hown6 S rfl ?d3 ?d4 ?d5 ?_)
  case d3 => unfold maxLen; omega
  case d4 => omega
  case d5 => exact hsz6
  intro v7 w7 o7 hgrow7 _
  have HW7 : Hid (Tw w0 w w7 b #[.string name, .int .i64 (kd : Nat), .int .i64 (md : Nat), .int .i64 time, .int .i64 (sz : Nat), .slice a np c, .string link] v7 (S3 ++ Nm.putI time)) := HW6.out.grow hgrow7 o7 (by rw [List.length_append, HS.out.2]) (by rw [List.map_append, HS.out.1])
  clear o7 hgrow7 hown6 hsz6 HW6 HS hSz
  obtain ⟨S4, hS4⟩ : ∃ S4, S3 ++ Nm.putI time = S4 := ⟨_, rfl⟩
  have hl4 : S4.length ≤ 526420 := by rw [← hS4, List.length_append]; omega
  rw [hS4] at HW7 HRow
  clear hS4 hy4
  obtain ⟨s7, c7, rfl⟩ := own_len HW7.out.own
  go_upto_region 5 with fail
  obtain ⟨_, _, _, _, m4, _⟩ := seven_at HW7.out.node
  go_upto_region 6 with (go_at_call 64; refine (hnu _ sz S4 _ HW7.out.own HW7.out.size (by omega) (by omega)).mono ?_; rintro e w8 ⟨v8, rfl, o8, b8, k8⟩)
  have HW8 : Hid (Tw w0 w w8 b #[.string name, .int .i64 (kd : Nat), .int .i64 (md : Nat), .int .i64 time, .int .i64 (sz : Nat), .slice a np c, .string link] v8 (S4 ++ Nm.put sz)) := HW7.out.ap o8 b8 k8
  clear o8 b8 k8 HW7 m4
  obtain ⟨S5, hS5⟩ : ∃ S5, S4 ++ Nm.put sz = S5 := ⟨_, rfl⟩
  have hlS5 : S5.length ≤ 526430 := by rw [← hS5, List.length_append]; omega
  rw [hS5] at HW8 HRow
  clear hS5 hy5
  obtain ⟨s8, c8, rfl⟩ := own_len HW8.out.own
  obtain ⟨_, _, _, _, _, m5, _⟩ := seven_at HW8.out.node
  go_upto_region 7 with (go_at_call 64; refine (hnu _ np S5 _ HW8.out.own HW8.out.size (by omega) (by omega)).mono ?_; rintro e w9 ⟨v9, rfl, o9, b9, k9⟩)
  have HW9 : Hid (Tw w0 w w9 b #[.string name, .int .i64 (kd : Nat), .int .i64 (md : Nat), .int .i64 time, .int .i64 (sz : Nat), .slice a np c, .string link] v9 (S5 ++ Nm.put np)) := HW8.out.ap o9 b9 k9
  clear o9 b9 k9 HW8 m5
  obtain ⟨S6, hS6⟩ : ∃ S6, S5 ++ Nm.put np = S6 := ⟨_, rfl⟩
  have hlS6 : S6.length ≤ 526440 := by rw [← hS6, List.length_append]; omega
  rw [hS6] at HW9 HRow
  clear hS6 hy6
  obtain ⟨s9, c9, rfl⟩ := own_len HW9.out.own
  obtain ⟨_, _, _, _, _, m5, _⟩ := seven_at HW9.out.node
  have HW9' : Hid (Tw w0 w w9 b #[.string name, .int .i64 (kd : Nat), .int .i64 (md : Nat), .int .i64 time, .int .i64 (sz : Nat), .slice a np c, .string link] (.slice s9 S6.length c9) (S6 ++ (parts.take 0).flatten)) := by
    show Tw _ _ _ _ _ _ _
    rw [List.take_zero, List.flatten_nil, List.append_nil]
    exact HW9.out
  have HFl : Hid (∀ k, k ≤ np → (parts.take k).flatten.length = 8 * k) := fun k hk => by
    rw [Td.flat8 fun p hp => HPt.out.2.1 p (List.mem_of_mem_take hp), List.length_take]
    have := HPt.out.2.2.1
    omega
  clear hnu HW9
  go_wp2_with fail
  clear m5
  go_loopw [0, 38] (fun vo i wr => ∃ k : Nat, k ≤ np ∧ i = .int .i64 k ∧ Hid (Tw w0 w wr b #[.string name, .int .i64 (kd : Nat), .int .i64 (md : Nat), .int .i64 time, .int .i64 (sz : Nat), .slice a np c, .string link] vo (S6 ++ (parts.take k).flatten))) (fun _ i _ => np - (intOf i).toNat)
  case atStart => exact ⟨0, by omega, rfl, HW9'⟩
  case round =>
    clear HW9'
    obtain ⟨k, hk, rfl, HW⟩ := hrel
    have hfl := HFl.out k hk
    obtain ⟨S, hS⟩ : ∃ S, S6 ++ (parts.take k).flatten = S := ⟨_, rfl⟩
    have hSl : S.length ≤ 526440 + 8 * k := by rw [← hS, List.length_append, hfl]; omega
    have HSk : Hid (S6 ++ (parts.take k).flatten = S) := hS
    rw [hS] at HW
    clear hfl hS
    obtain ⟨so, co, hvo⟩ := own_len HW.out.own
    subst hvo
    by_cases hlt : k < np
    · have hkl : k < parts.length := by rw [← HPt.out.2.2.1]; exact hlt
      obtain ⟨bk, o, rfl, hbk, hcell⟩ := (HPt.out.1.below (HPt.out.2.2.2.trans HW.out.bel)).get k parts[k] (List.getElem?_eq_getElem hkl)
      obtain ⟨b0, b1, b2, b3, b4, b5, b6, b7, ht8⟩ := tg_eight (HPt.out.2.1 parts[k] (List.getElem_mem hkl))
      have HM : Hid (S6 ++ (parts.take (k + 1)).flatten = S ++ [b0, b1, b2, b3, b4, b5, b6, b7]) := by show _ = _; rw [flat_more hkl, ← List.append_assoc, HSk.out, ht8]
      rw [ht8] at hcell
      have x0 : wr.cell? ⟨bk, o + k * 8, none⟩ = some (.int .u8 (b0.toNat : Int)) := hcell 0 _ rfl
      have x1 : wr.cell? ⟨bk, o + k * 8 + 1, none⟩ = some (.int .u8 (b1.toNat : Int)) := hcell 1 _ rfl
      have x2 : wr.cell? ⟨bk, o + k * 8 + 2, none⟩ = some (.int .u8 (b2.toNat : Int)) := hcell 2 _ rfl
      have x3 : wr.cell? ⟨bk, o + k * 8 + 3, none⟩ = some (.int .u8 (b3.toNat : Int)) := hcell 3 _ rfl
      have x4 : wr.cell? ⟨bk, o + k * 8 + 4, none⟩ = some (.int .u8 (b4.toNat : Int)) := hcell 4 _ rfl
      have x5 : wr.cell? ⟨bk, o + k * 8 + 5, none⟩ = some (.int .u8 (b5.toNat : Int)) := hcell 5 _ rfl
      have x6 : wr.cell? ⟨bk, o + k * 8 + 6, none⟩ = some (.int .u8 (b6.toNat : Int)) := hcell 6 _ rfl
      have x7 : wr.cell? ⟨bk, o + k * 8 + 7, none⟩ = some (.int .u8 (b7.toNat : Int)) := hcell 7 _ rfl
      clear hcell ht8 HSk
      obtain ⟨W5, hW5⟩ : ∃ W5, W5 = wr.alloc (.cells #[.int .u8 (b0.toNat : Int), .int .u8 (b1.toNat : Int), .int .u8 (b2.toNat : Int), .int .u8 (b3.toNat : Int), .int .u8 (b4.toNat : Int), .int .u8 (b5.toNat : Int), .int .u8 (b6.toNat : Int), .int .u8 (b7.toNat : Int)] 39) := ⟨_, rfl⟩
      have HW5 : Hid (Tw w0 w W5 b #[.string name, .int .i64 (kd : Nat), .int .i64 (md : Nat), .int .i64 time, .int .i64 (sz : Nat), .slice (some ⟨bk, o, none⟩) np c, .string link] (.slice so S.length co) S) := by rw [hW5]; exact HW.out.past ((Below.refl _ wr).alloc (Nat.le_refl _) _)
      have hnews : ∀ j u, ([b0, b1, b2, b3, b4, b5, b6, b7].map B)[j]? = some u → W5.cell? ((⟨wr.heap.size, 0, none⟩ : Addr).add j) = some u := fun j u hu => by
        rw [hW5, show ((⟨wr.heap.size, 0, none⟩ : Addr).add j) = ⟨wr.heap.size, 0 + j, none⟩ from Addr.add_mid _ _ _, Nat.zero_add, cell_of_row _ wr.heap.size j _ _ _ (heap_alloc_new wr _)]
        match j, hu with
        | 0, hu => exact hu
        | 1, hu => exact hu
        | 2, hu => exact hu
        | 3, hu => exact hu
        | 4, hu => exact hu
        | 5, hu => exact hu
        | 6, hu => exact hu
        | 7, hu => exact hu
        | n + 8, hu => simp at hu
      have hown5 := HW5.out.own
      have hsz5 := HW5.out.size
      clear HW
      go_upto_region 10 with fail
      rw [← hW5]
      clear hW5 x0 x1 x2 x3 x4 x5 x6 x7
      go_wp2_with (at_builtin; refine wpList_append_own _ rfl (.tmp 42) (.tmp 43) 129 rfl w0.heap.size 5 i0 (.int .u8 0) 1 1 Tryz.underlying129 hi hz0 hz1 hz2 rfl (by decide) _ _ _ rfl hown5 ⟨wr.heap.size, 0, none⟩ 8 8 ([b0, b1, b2, b3, b4, b5, b6, b7].map B) rfl rfl hnews ?e2 ?e3 ?e4 ?e5 ?_)
      case e2 => intro u hu; obtain ⟨x, _, rfl⟩ := List.mem_map.1 hu; rfl
      case e3 => unfold maxLen; omega
      case e4 => omega
      case e5 => exact hsz5
      intro v8 w8 o8 hgrow8 _
      have HW8 : Hid (Tw w0 w w8 b #[.string name, .int .i64 (kd : Nat), .int .i64 (md : Nat), .int .i64 time, .int .i64 (sz : Nat), .slice (some ⟨bk, o, none⟩) np c, .string link] v8 (S6 ++ (parts.take (k + 1)).flatten)) := by
        rw [HM.out]
        exact HW5.out.grow hgrow8 o8 (by simp) (by rw [List.map_append]; rfl)
      clear o8 hgrow8 hown5 HW5 hnews hsz5 HM
      go_wp2_with fail
      go_roundw
      case rel => exact ⟨k + 1, by omega, by go_num, HW8⟩
      case measure => simp only [intOf]; omega
    · have hke : parts.take k = parts := List.take_of_length_le (by have := HPt.out.2.2.1; omega)
      rw [hke] at HSk
      rw [HSk.out] at HRow
      obtain ⟨_, _, _, _, _, _, m6⟩ := seven_at HW.out.node
      have hb6 : S.length ≤ 1048576 := by omega
      clear hke HSk
      go_wp2_with (go_at_call 79; refine (htx _ link S _ HW.out.own HW.out.size hb6 hl).mono ?_; rintro e w12 ⟨v12, rfl, o12, b12, k12⟩)
      have HO : Hid (w12.ownsRow w0.heap.size 5 1 v12 RES.length (RES.map B)) := by rw [HRow.out]; exact o12
      have HB : Hid (Below w0.heap.size w w12) := HW.out.bel.trans b12
      go_ret
      exact ⟨_, rfl, HO.out, HB.out⟩
theorem trows_more (l : List Nod) (k : Nat) (h : k < l.length) : Td.rowsT (nds (l.take (k + 1))) = Td.rowsT (nds (l.take k)) ++ Td.rowT l[k].nd := by
  rw [List.take_succ_eq_append_getElem h]
  simp only [nds, Td.rowsT, List.map_append, List.map_cons, List.map_nil, List.flatten_append, List.flatten_cons, List.flatten_nil, List.append_nil]
theorem trow_len {n : Nod} (h : Td.nErr n.nd = 0) (h8 : ∀ p ∈ n.parts, p.length = 8) : (Td.rowT n.nd).length ≤ 6600 := by
  obtain ⟨q0, q1, q2, q3, q4, q5, q6, q7, q8⟩ := Td.nErr_ok h
  have a1 := Nm.putT_length n.nd.name
  have a2 := Nn.nm_long q0
  have a3 := Nm.putT_length n.nd.link
  have a4 := tput9 n.nd.mode.toNat
  have a5 := tput9 n.nd.size.toNat
  have a6 := tput9 n.nd.parts.length
  have a7 := Nm.putI_length n.nd.time
  have a8 : n.nd.parts.flatten.length = 8 * n.nd.parts.length := Td.flat8 h8
  unfold Td.rowT
  simp only [List.length_append, List.length_cons]
  omega
set_option maxHeartbeats 4000000 in
set_option maxRecDepth 10000 in
theorem twrite_any (v : Value) (l : List Nod) (w : World) (h : Nds w v l) (hl : l.length ≤ 9223372036854775807) (hT : Tabs w) :
    Calls Tryz.prog 47 #[v] w fun e w' => e = .returned (.tuple #[.string ⟨(Td.write (nds l)).1.toArray⟩, .int .i64 (Td.write (nds l)).2]) ∧ Below w.heap.size w w' := by
  obtain ⟨a, c, rfl⟩ := h.slice
  have hno := tcheck_any _ l w h hl hT
  have HX : Hid (Nds w (.slice a l.length c) l) := h
  have HZ : Hid (Td.write (nds l) = if Td.check (nds l) ≠ 0 then ([], Td.check (nds l)) else if 4096 < (Td.textB (nds l)).length then ([], 2) else (Td.textB (nds l), 0)) := rfl
  have HC : Hid (Td.check (nds l) = 0 → l.length ≤ 64 ∧ ∀ n ∈ l, Td.nErr n.nd = 0) := fun q => by
    obtain ⟨c1, c2⟩ := Td.check_ok q
    rw [nds_length] at c1
    exact ⟨c1, fun n hn => c2 _ (List.mem_map_of_mem hn)⟩
  have HTx : Hid (Td.textB (nds l) = Nm.put l.length ++ Td.rowsT (nds l)) := by show _ = _; rw [Td.textB, nds_length]
  generalize Td.write (nds l) = Z at *
  generalize Td.check (nds l) = E at *
  generalize Td.textB (nds l) = TX at *
  obtain ⟨N, hN⟩ : ∃ N, N = l.length := ⟨_, rfl⟩
  have HN : Hid (N = l.length) := hN
  rw [← hN] at HX HC HTx hl hno ⊢
  clear h hT hN
  go_enter Tryz.func47, Tryz.ntmps47
  go_wp2_with fail
  refine hno.mono ?_
  rintro e w1 ⟨rfl, b1⟩
  have HB1 : Hid (Below w.heap.size w w1) := b1
  clear hno b1
  by_cases hE : E ≠ 0
  · have hqn : (E != 0) = true := by rw [bne_iff_ne]; exact hE
    have HR : Hid (Z = ([], E)) := by
      have := HZ.out
      rwa [if_pos hE] at this
    clear HZ HC HTx
    go_wp2_with fail
    go_ret2
    exact ⟨by rw [HR.out]; rfl, HB1.out⟩
  obtain rfl := Decidable.not_not.mp hE
  clear hE
  obtain ⟨h64, hok⟩ := HC.out rfl
  have HOk : Hid (∀ n ∈ l, Td.nErr n.nd = 0) := hok
  have HZ1 : Hid (Z = if 4096 < TX.length then ([], 2) else (TX, 0)) := by
    have := HZ.out
    rwa [if_neg (by simp)] at this
  have hpn := tnum_any w.heap.size (.slice none 0 0) [] N w1 (World.ownsRow_nil _ _ _ _) HB1.out.size (by simp) (by omega)
  unfold ApOut at hpn
  rw [List.nil_append] at hpn
  obtain ⟨P0, hP0⟩ : ∃ P0, P0 = Nm.put N := ⟨_, rfl⟩
  have HP9 : Hid (P0.length ≤ 9) := by show _ ≤ _; rw [hP0]; exact tput9 _
  rw [← hP0] at hpn HTx
  clear hok HC HZ hP0
  go_wp2_with fail
  refine hpn.mono ?_
  rintro e w2 ⟨v2, rfl, o2, b2, _⟩
  have HB2 : Hid (Below w.heap.size w w2) := HB1.out.trans b2
  have HO2 : Hid (w2.ownsRow w.heap.size 5 1 v2 P0.length (P0.map B)) := o2
  clear hpn b2 HB1 o2
  go_wp2_with fail
  go_loopw [5, 18] (fun x i wr => ∃ (k : Nat) (L : List UInt8), k ≤ N ∧ i = .int .i64 k ∧ L.length ≤ 9 + 6600 * k ∧ Hid (wr.ownsRow w.heap.size 5 1 x L.length (L.map B)) ∧ Hid (P0 ++ Td.rowsT (nds (l.take k)) = L) ∧ Hid (Below w.heap.size w wr)) (fun _ i _ => N - (intOf i).toNat)
  case atStart => exact ⟨0, P0, by omega, rfl, by have := HP9.out; omega, HO2, List.append_nil _, HB2⟩
  case round =>
    clear HB2 HO2
    obtain ⟨k, L, hk, rfl, hLl, HO, HL, HB⟩ := hrel
    obtain ⟨so, co, hvo⟩ := own_len HO.out
    subst hvo
    by_cases hlt : k < N
    · have hkl : k < l.length := by rw [← HN.out]; exact hlt
      obtain ⟨bk, o, cs, rfl, hbk, hcl, ⟨v, rfl, hPs, hnk⟩, hcell⟩ := (HX.out.below HB.out).get k l[k] (List.getElem?_eq_getElem hkl)
      have HPw : Hid (Rx 8 idC w v l[k].parts) := by
        obtain ⟨bk', o', cs', e', _, _, ⟨v', rfl, q, _⟩, hc'⟩ := HX.out.get k l[k] (List.getElem?_eq_getElem hkl)
        cases e'
        have e1 := hcell 5 _ rfl
        have e2 := (Below.cell HB.out (p := ⟨bk, o + k * 7 + 5, none⟩) (World.block_lt_of_cell? w _ (hc' 5 _ rfl))).trans (hc' 5 _ rfl)
        rw [e1, Option.some.injEq] at e2
        rw [e2]
        exact q
      have HRw : Hid (Td.rowsT (nds (l.take (k + 1))) = Td.rowsT (nds (l.take k)) ++ Td.rowT l[k].nd) := trows_more l k hkl
      have HRl : Hid ((Td.rowT l[k].nd).length ≤ 6600) := trow_len (HOk.out _ (List.getElem_mem hkl)) hnk.ids
      obtain ⟨q0, q1, q2, q3, q4, q5, q6, q7, q8⟩ := Td.nErr_ok (HOk.out _ (List.getElem_mem hkl))
      have q9 := Nn.nm_long q0
      obtain ⟨av, cv, rfl, _⟩ := hPs.slice
      have htm := hnk.time
      have h8 := hnk.ids
      have c0 : wr.cell? ⟨bk, o + k * 7, none⟩ = some (.string l[k].name) := hcell 0 _ rfl
      have c1 := hcell 1 _ rfl
      have c2 := hcell 2 _ rfl
      have c3 := hcell 3 _ rfl
      have c4 := hcell 4 _ rfl
      have c5 := hcell 5 _ rfl
      have c6 := hcell 6 _ rfl
      generalize l[k] = n at *
      obtain ⟨name, kind, mode, time, size, parts, link⟩ := n
      dsimp only [Nod.nd] at *
      obtain ⟨kd, rfl⟩ := Int.eq_ofNat_of_zero_le (a := kind) (by omega)
      obtain ⟨md, rfl⟩ := Int.eq_ofNat_of_zero_le q1
      obtain ⟨sz, rfl⟩ := Int.eq_ofNat_of_zero_le q3
      obtain ⟨np, hnp⟩ : ∃ np, np = parts.length := ⟨_, rfl⟩
      rw [← hnp] at HPw q5 c5
      simp [Lit.wf, IntKind.min, IntKind.max, IntKind.signed, IntKind.bits] at htm
      obtain ⟨W1, hW1⟩ : ∃ W1, W1 = wr.alloc (.cells #[.string name, .int .i64 (kd : Nat), .int .i64 (md : Nat), .int .i64 time, .int .i64 (sz : Nat), .slice av np cv, .string link] 104) := ⟨_, rfl⟩
      have hB1 : Below wr.heap.size wr W1 := by rw [hW1]; exact (Below.refl _ wr).alloc (Nat.le_refl _) _
      have HM1 : Hid (W1.heap[wr.heap.size]? = some (.cells #[.string name, .int .i64 (kd : Nat), .int .i64 (md : Nat), .int .i64 time, .int .i64 (sz : Nat), .slice av np cv, .string link] 104 (0, 0))) := by rw [hW1]; exact heap_alloc_new wr _
      have HB1 : Hid (Below w.heap.size w W1) := HB.out.trans (hB1.mono HB.out.size)
      have han := tnode_any w W1 (.slice so L.length co) L name link kd md sz time parts av cv np HB1.out (own_below HO.out hB1) (by omega) hnp HPw.out h8 (by rw [Lib.size_eq]; omega) (by rw [Lib.size_eq]; exact q8) (by omega) (by omega) (by omega) q5 htm.1 htm.2
      unfold AnOut at han
      obtain ⟨L2, hL2⟩ : ∃ L2, L ++ Td.rowT ⟨name.data.toList, (kd : Nat), (md : Nat), time, (sz : Nat), parts, link.data.toList⟩ = L2 := ⟨_, rfl⟩
      have hL2l : L2.length ≤ 9 + 6600 * (k + 1) := by have := HRl.out; rw [← hL2, List.length_append]; omega
      have HL2 : Hid (P0 ++ Td.rowsT (nds (l.take (k + 1))) = L2) := by show _ = _; rw [HRw.out, ← List.append_assoc, HL.out, hL2]
      rw [hL2] at han
      clear hcell hPs hnk hcl hB1 hnp q0 q6 hL2 HRl HRw HPw h8 HL HO
      go_upto_region 8 with fail
      rw [← hW1]
      obtain ⟨b7, hb7⟩ : ∃ b7, b7 = wr.heap.size := ⟨_, rfl⟩
      rw [← hb7] at HM1 ⊢
      obtain ⟨m0, m1, m2, m3, m4, m5, m6⟩ := seven_at HM1.out
      clear hW1 c0 c1 c2 c3 c4 c5 c6 hb7
      go_wp2_with fail
      refine han.mono ?_
      rintro e w3 ⟨v3, rfl, o3, b3⟩
      have HO3 : Hid (w3.ownsRow w.heap.size 5 1 v3 L2.length (L2.map B)) := o3
      have HB3 : Hid (Below w.heap.size w w3) := HB1.out.trans b3
      clear han o3 b3 m0 m1 m2 m3 m4 m5 m6
      go_wp2_with fail
      go_roundw
      case measure => simp only [intOf]; omega
      case rel => exact ⟨k + 1, L2, by omega, by go_num, hL2l, HO3, HL2, HB3⟩
    · obtain rfl : k = N := by omega
      have HTT : Hid (TX = L) := by
        show _ = _
        rw [HTx.out, ← HL.out, List.take_of_length_le (by rw [HN.out]; exact Nat.le_refl _)]
      have hcv := run_str HO.out
      clear HL HO
      by_cases h4 : 4096 < L.length
      · have g4 : (4096 : Int) < (L.length : Int) := by omega
        have HR : Hid (Z = ([], 2)) := by
          have := HZ1.out
          rwa [HTT.out, if_pos h4] at this
        clear HZ1 hcv
        go_wp2_with fail
        go_ret2
        exact ⟨by rw [HR.out]; rfl, HB.out⟩
      · have g4 : ¬ (4096 : Int) < (L.length : Int) := by omega
        have HR : Hid (Z = (L, 0)) := by
          have := HZ1.out
          rwa [HTT.out, if_neg h4] at this
        clear HZ1
        go_wp2_with fail
        go_ret2
        exact ⟨by rw [HR.out]; rfl, HB.out⟩
end Go.Proofs.YthpcbbkpjggjbaaGreatDoor
namespace Go.Proofs.YthpcbbkpjggjbaaGreatDoor
open Go.RowKit
set_option maxRecDepth 4000
theorem Kt.of_rs {A B : World} {br : Nat} {x : Td.St} (hk : Kept (fun j => j ≠ br) A B) (hr : Rs A br x) : Kt 134 A B :=
  ⟨hk.os, hk.tape, hk.output, hk.size, fun k o ho hn => by
    by_cases e : k = br
    · subst e
      unfold Rs at hr
      rw [hr, Option.some.injEq] at ho
      exact absurd ⟨_, _, ho.symm⟩ hn
    · exact (hk.block k (Array.getElem?_eq_some_iff.1 ho).1 e).trans ho⟩
theorem NdG.kr {w W : World} {n : Nod} {c : List Value} (hk : Kt 134 w W) (h : NdG w n c) : NdG W n c := by
  obtain ⟨v, e, hr, ht, ho⟩ := h
  refine ⟨v, e, ⟨?_, hr.room⟩, fun a m c hv => ?_, ho⟩
  · rcases hr.at_ with h1 | ⟨bk, o, cap, h1, h2, h3⟩
    · exact .inl h1
    · obtain ⟨cur, fr, hb⟩ := ht _ _ _ h1
      have hb' := hk.cell hb (by decide)
      refine .inr ⟨bk, o, cap, h1, Nat.lt_of_lt_of_le h2 hk.size, fun j t hj r u hu => ?_⟩
      rw [← h3 j t hj r u hu]
      simp only [World.cell?] at hb hb' ⊢
      rw [hb, hb']
  · obtain ⟨cur, fr, hb⟩ := ht a m c hv
    exact ⟨cur, fr, hk.cell hb (by decide)⟩
theorem NdG.keep {w W : World} {n : Nod} {c : List Value} (hs : w.heap.size ≤ W.heap.size) (hk : ∀ (k : Nat) cur fr, w.heap[k]? = some (.cells cur 39 fr) → W.heap[k]? = some (.cells cur 39 fr)) (h : NdG w n c) : NdG W n c := by
  obtain ⟨v, e, hr, ht, ho⟩ := h
  refine ⟨v, e, ⟨?_, hr.room⟩, fun a m c hv => ?_, ho⟩
  · rcases hr.at_ with h1 | ⟨bk, o, cap, h1, h2, h3⟩
    · exact .inl h1
    · obtain ⟨cur, fr, hb⟩ := ht _ _ _ h1
      have hb' := hk _ _ _ hb
      refine .inr ⟨bk, o, cap, h1, Nat.lt_of_lt_of_le h2 hs, fun j t hj r u hu => ?_⟩
      rw [← h3 j t hj r u hu]
      simp only [World.cell?] at hb hb' ⊢
      rw [hb, hb']
  · obtain ⟨cur, fr, hb⟩ := ht a m c hv
    exact ⟨cur, fr, hk _ _ _ hb⟩
theorem Oy.keep {base : Nat} {w W : World} {v : Value} {l : List Nod} (h : Oy 7 104 NdG base w v l) (hs : w.heap.size ≤ W.heap.size) (hk : ∀ (k : Nat) cur t fr, (t = 39 ∨ t = 104) → w.heap[k]? = some (.cells cur t fr) → W.heap[k]? = some (.cells cur t fr)) : Oy 7 104 NdG base W v l :=
  h.obj (fun _ _ q => q.keep hs fun k cur fr ho => hk k cur _ fr (.inl rfl) ho) fun g cur fr ho => hk g cur _ fr (.inr rfl) ho
theorem Oy.belowN {base : Nat} {w W : World} {v : Value} {l : List Nod} (h : Oy 7 104 NdG base w v l) (hb : Below w.heap.size w W) : Oy 7 104 NdG base W v l :=
  h.keep hb.size fun k _ _ _ _ ho => (hb.block k (Array.getElem?_eq_some_iff.1 ho).1).trans ho
def NsOut (br : Nat) (w : World) (x : Td.St) (e : Ending) (w' : World) : Prop :=
  ∃ v l, e = .returned v ∧ nds l = (Td.sAll (Td.sNum 64 x).1 (Td.sNum 64 x).2).1 ∧ l.length ≤ 64 ∧ Oy 7 104 NdG w.heap.size w' v l ∧ Rs w' br (Td.sAll (Td.sNum 64 x).1 (Td.sNum 64 x).2).2 ∧ Kept (fun j => j ≠ br) w w'
set_option maxHeartbeats 4000000 in
set_option maxRecDepth 10000 in
theorem rdnodes_any (br : Nat) (x : Td.St) (w : World) (h : Rs w br x) (hx : x.1.length ≤ 1048576) :
    Calls Tryz.prog 67 #[.pointer (some ⟨br, 0, none⟩)] w (NsOut br w x) := by
  unfold NsOut
  obtain ⟨i0, hi, hz0, hz1, hz2⟩ := info_of' info_nd
  have hg := rdnumber_any br 64 x w h (by omega) hx
  have hnp := Td.sNum_most 64 x
  have hl1 := Td.sNum_len 64 x
  rcases hN : Td.sNum 64 x with ⟨np, x1⟩
  rw [hN] at hg hnp hl1
  dsimp only at *
  unfold RsOut at hg
  have HB : Hid (br < w.heap.size) := h.lt
  have HL : Hid (∀ k, (Td.sAll k x1).2.1.length ≤ 1048576) := fun k => by have := (Td.sAll_len x1 k).1; omega
  have HSt : Hid (∀ k, Td.sAll (k + 1) x1 = ((Td.sAll k x1).1 ++ [(Td.sNode (Td.sAll k x1).2).1], (Td.sNode (Td.sAll k x1).2).2)) := fun k => rfl
  clear h hN hx hl1
  go_enter Tryz.func67, Tryz.ntmps67
  go_wp2_with fail
  refine hg.mono ?_
  rintro e w1 ⟨rfl, r1, k1⟩
  have HR1 : Hid (Rs w1 br x1) := r1
  have HK1 : Hid (Kept (fun j => j ≠ br) w w1) := k1
  clear hg r1 k1
  go_wp2_with fail
  go_loopw [3, 6] (fun v i wr => ∃ (k : Nat) (l : List Nod), k ≤ np ∧ i = .int .i64 k ∧ l.length = k ∧ Hid (nds l = (Td.sAll k x1).1) ∧ Hid (Oy 7 104 NdG w.heap.size wr v l) ∧ Hid (Rs wr br (Td.sAll k x1).2) ∧ Hid (Kept (fun j => j ≠ br) w wr)) (fun _ i _ => np - (intOf i).toNat)
  case atStart => exact ⟨0, [], by omega, rfl, rfl, rfl, Oy.nil, HR1, HK1⟩
  case round =>
    clear HR1 HK1
    obtain ⟨k, l, hk, rfl, hlk, HD, HO, HR, HK⟩ := hrel
    by_cases hlt : k < np
    · have hst := HSt.out k
      have hnr := rdnode_any br (Td.sAll k x1).2 wr HR.out (HL.out k)
      unfold NoOut at hnr
      have HST : Hid (Td.sAll (k + 1) x1 = ((Td.sAll k x1).1 ++ [(Td.sNode (Td.sAll k x1).2).1], (Td.sNode (Td.sAll k x1).2).2)) := hst
      generalize Td.sNode (Td.sAll k x1).2 = NN at *
      clear hst
      go_wp2_with fail
      refine hnr.mono ?_
      rintro e w3 ⟨n, v, rfl, hnd, o3, hok, r3, k3⟩
      obtain ⟨av, cv, rfl⟩ := own_len o3
      have HG3 : Hid (NdG w3 n (ndC n (.slice av n.parts.length cv))) := ⟨_, rfl, rx_own o3 rfl hok.ids, own_type o3, hok⟩
      have hKr : Kt 134 wr w3 := Kt.of_rs k3 HR.out
      obtain ⟨cc, o1, o2, o2l, o4⟩ := HO.out
      have o1' : w3.ownsRow w.heap.size 104 7 u3 l.length cc.flatten := own_kept o1 k3 fun g hg => by have := own_ge o1 hg; have := HB.out; omega
      have HO2 : Hid ((∀ c ∈ cc, c.length = 7) ∧ cc.length = l.length ∧ ∀ (j : Nat) t c, l[j]? = some t → cc[j]? = some c → NdG w3 t c) := ⟨o2, o2l, fun j t c a b => NdG.kr hKr (o4 j t c a b)⟩
      have HD2 : Hid (nds (l ++ [n]) = (Td.sAll (k + 1) x1).1) := by show _ = _; rw [HST.out, ← HD.out, ← hnd]; simp [nds]
      have HR3 : Hid (Rs w3 br (Td.sAll (k + 1) x1).2) := by rw [HST.out]; exact r3
      have HK3 : Hid (Kept (fun j => j ≠ br) w w3) := HK.out.trans k3
      have HLe : Hid (l.length = k ∧ (l ++ [n]).length = k + 1) := ⟨hlk, by rw [List.length_append, hlk]; rfl⟩
      have hl4 : l.length ≤ 64 := by omega
      have hsw := HK3.out.size
      obtain ⟨np', hnp'⟩ : ∃ np', np' = n.parts.length := ⟨_, rfl⟩
      rw [← hnp'] at HG3 ⊢
      clear hnr o3 hok r3 k3 hKr o1 o2 o2l o4 hnd hnp' HST HO HR HK HD
      obtain ⟨name, kind, mode, time, size, parts, link⟩ := n
      dsimp only at *
      go_wp2_with (at_builtin; refine wpList_append_own _ rfl (.tmp 8) (.tmp 11) 101 rfl w.heap.size 104 i0 (.agg #[.string ⟨#[]⟩, .int .i64 0, .int .i64 0, .int .i64 0, .int .i64 0, .slice none 0 0, .string ⟨#[]⟩]) 7 88 Tryz.underlying101 hi hz0 hz1 hz2 rfl (by decide) _ _ _ rfl (o1'.alloc _) ⟨w3.heap.size, 0, none⟩ 1 1 [.string name, .int .i64 kind, .int .i64 mode, .int .i64 time, .int .i64 size, .slice av np' cv, .string link] rfl rfl (seven_new w3 _ _ _ _ _ _ _) ?c2 ?c3 ?c4 ?c5 ?_)
      case c2 => simp [Value.oneCell']
      case c3 => unfold maxLen; omega
      case c4 => omega
      case c5 => first | omega | (simp; omega)
      intro v6 w5 hown5 hgrow _
      rw [← HLe.out.1] at hown5
      have hk5 : Kt 104 w3 w5 := ((Kt.refl _ w3).alloc _).trans (Kt.of_grown hgrow fun g hg => by
        obtain ⟨cur, q, _⟩ := own_block (o1'.alloc _) hg
        exact ⟨cur, _, q⟩)
      have hge : ∀ g, u3.ownBlock = some g → w.heap.size ≤ g := fun g hg => own_ge o1' hg
      have HR5 : Hid (Rs w5 br (Td.sAll (k + 1) x1).2) := hk5.cell HR3.out (by decide)
      have HK5 : Hid (Kept (fun j => j ≠ br) w w5) := by
        have hz := HK3.out.alloc (.cells #[.string name, .int .i64 kind, .int .i64 mode, .int .i64 time, .int .i64 size, .slice av np' cv, .string link] 104)
        exact ⟨hgrow.os.trans hz.os, hgrow.tape.trans hz.tape, hgrow.output.trans hz.output, Nat.le_trans hz.size hgrow.size, fun j hj hp => (hgrow.block j (Nat.lt_of_lt_of_le hj hz.size) fun e => by have := hge j e.symm; omega).trans (hz.block j hj hp)⟩
      have HOn : Hid (Oy 7 104 NdG w.heap.size w5 v6 (l ++ [⟨name, kind, mode, time, size, parts, link⟩])) := Oy.more HO2.out.1 HO2.out.2.1 (fun j t c a b => NdG.kt hk5 (HO2.out.2.2 j t c a b)) hown5 rfl (NdG.kt hk5 HG3.out)
      clear hown5 hgrow hk5 o1' HO2 HG3 HK3 HR3 hge
      go_wp2_with fail
      go_roundw
      case measure => simp only [intOf]; omega
      case rel => exact ⟨k + 1, _, by omega, by go_num, HLe.out.2, HD2, HOn, HR5, HK5⟩
    · obtain rfl : k = np := by omega
      have hl64 : l.length ≤ 64 := by omega
      go_wp2_with fail
      go_ret
      exact ⟨_, l, rfl, HD.out, hl64, HO.out, HR.out, HK.out⟩
def TgOy (s : ByteArray) (w : World) (e : Ending) (w' : World) : Prop :=
  ∃ v l B, e = .returned (.tuple #[v, .int .i64 (Td.read s.data.toList).2]) ∧ nds l = (Td.read s.data.toList).1 ∧ Oy 7 104 NdG B w' v l ∧ l.length ≤ 64 ∧ Below w.heap.size w w'
theorem write_size (l : List Nod) : (⟨(Td.write (nds l)).1.toArray⟩ : ByteArray).size ≤ 9223372036854775807 := by
  rw [tg_size]
  unfold Td.write
  split
  · simp
  · split
    · simp
    · show (Td.textB (nds l)).length ≤ _; omega
set_option maxHeartbeats 4000000 in
set_option maxRecDepth 10000 in
theorem tread_oy (s : ByteArray) (w : World) (hs : s.size ≤ 9223372036854775807) (hT : Tabs w) : Calls Tryz.prog 51 #[.string s] w (TgOy s w) := by
  unfold TgOy
  by_cases h4 : 4096 < s.size
  · have HR : Hid (Td.read s.data.toList = ([], 2)) := by show _ = _; unfold Td.read; rw [if_pos (by rw [← Lib.size_eq]; exact h4)]
    generalize Td.read s.data.toList = RES at *
    have g4 : (4096 : Int) < (s.size : Int) := by omega
    clear hT
    go_enter Tryz.func51, Tryz.ntmps51
    go_wp2_with fail
    go_ret2
    exact ⟨_, [], 0, by rw [HR.out]; rfl, by rw [HR.out]; rfl, Oy.nil, by simp, Below.refl _ _⟩
  have g4 : ¬ (4096 : Int) < (s.size : Int) := by omega
  rcases hA : Td.sAll (Td.sNum 64 (s.data.toList, 0)).1 (Td.sNum 64 (s.data.toList, 0)).2 with ⟨L, r, er⟩
  have HRd : Hid (Td.read s.data.toList = if er ≠ 0 then ([], er) else if r ≠ [] then ([], 4) else if Td.check L ≠ 0 then ([], Td.check L) else (L, 0)) := Td.read_st (by rw [← Lib.size_eq]; exact h4) hA
  generalize Td.read s.data.toList = RES at *
  obtain ⟨W1, hW1⟩ : ∃ W1, W1 = w.alloc (.cells #[.string s, .int .i64 0] 134) := ⟨_, rfl⟩
  have HB1 : Hid (Below w.heap.size w W1) := by rw [hW1]; exact (Below.refl _ w).alloc (Nat.le_refl _) _
  have HR1 : Hid (Rs W1 w.heap.size (s.data.toList, 0)) := by rw [hW1]; exact heap_alloc_new w _
  have hns := rdnodes_any w.heap.size (s.data.toList, 0) W1 HR1.out (by show List.length _ ≤ _; rw [← Lib.size_eq]; omega)
  unfold NsOut at hns
  rw [hA] at hns
  dsimp only at hns
  have HT : Hid (Tabs w) := hT
  have hrl : r.length ≤ 4096 := by
    have q1 := (Td.sAll_len (Td.sNum 64 (s.data.toList, 0)).2 (Td.sNum 64 (s.data.toList, 0)).1).1
    have q2 := Td.sNum_len 64 (s.data.toList, 0)
    rw [hA] at q1
    have q3 : s.data.toList.length = s.size := (Lib.size_eq s).symm
    simp only at q1 q2
    omega
  obtain ⟨br, hbr⟩ : ∃ br, br = w.heap.size := ⟨_, rfl⟩
  have HBr : Hid (br = w.heap.size) := hbr
  rw [← hbr] at hns
  clear hT hA HR1
  go_enter Tryz.func51, Tryz.ntmps51
  go_upto_region 4 with fail
  rw [← hW1, ← hbr]
  clear hW1 hbr
  go_wp2_with fail
  refine hns.mono ?_
  rintro e w2 ⟨v, l, rfl, hd, hl, hn, r2, k2⟩
  have hb2 : Below w.heap.size w w2 := HB1.out.trans (k2.below HB1.out.size fun j hj => by have := HBr.out; omega)
  have HB2 : Hid (Below w.heap.size w w2) := hb2
  have HN2 : Hid (Oy 7 104 NdG W1.heap.size w2 v l) := hn
  have hck := tcheck_any v l w2 (Nds.of_oy hn) (by omega) (HT.out.below hb2)
  rw [hd] at hck
  have HD : Hid (nds l = L) := hd
  obtain ⟨c0, c1, f0, f1⟩ := r2.cells
  dsimp only at c0 c1
  obtain ⟨t, ht⟩ : ∃ t : ByteArray, t = ⟨r.toArray⟩ := ⟨_, rfl⟩
  have hts : t.size = r.length := by rw [ht]; exact tg_size r
  rw [← ht] at c0
  clear hns hb2 hn hd r2 k2 HB1 ht f0 f1
  by_cases he : er ≠ 0
  · have hqn : (er != 0) = true := by rw [bne_iff_ne]; exact he
    have HRE : Hid (RES = ([], er)) := by
      have := HRd.out
      rwa [if_pos he] at this
    clear HRd hck
    go_wp2_with fail
    go_quiet (fail)
    go_wp2_with fail
    go_ret2
    exact ⟨_, [], 0, by rw [HRE.out]; rfl, by rw [HRE.out]; rfl, Oy.nil, by simp, Go.below_drewN HB2.out _⟩
  obtain rfl := Decidable.not_not.mp he
  have HRd1 : Hid (RES = if r ≠ [] then ([], 4) else if Td.check L ≠ 0 then ([], Td.check L) else (L, 0)) := by
    have := HRd.out
    rwa [if_neg (by simp)] at this
  clear HRd he
  by_cases hr : r ≠ []
  · have HRE : Hid (RES = ([], 4)) := by
      have := HRd1.out
      rwa [if_pos hr] at this
    have hp : (0 : Int) < (t.size : Int) := by have := List.length_pos_iff.2 hr; omega
    clear HRd1 hck
    go_wp2_with fail
    go_ret2
    exact ⟨_, [], 0, by rw [HRE.out]; rfl, by rw [HRE.out]; rfl, Oy.nil, by simp, HB2.out⟩
  obtain rfl := Decidable.not_not.mp hr
  have HRd2 : Hid (RES = if Td.check L ≠ 0 then ([], Td.check L) else (L, 0)) := by
    have := HRd1.out
    rwa [if_neg (by simp)] at this
  have hp : ¬ (0 : Int) < (t.size : Int) := by rw [hts]; simp
  generalize Td.check L = E at *
  clear HRd1 hr hrl hts
  go_wp2_with fail
  refine hck.mono ?_
  rintro e w3 ⟨rfl, b3⟩
  have HB3 : Hid (Below w.heap.size w w3) := HB2.out.trans (b3.mono HB2.out.size)
  have HN3 : Hid (Oy 7 104 NdG W1.heap.size w3 v l) := HN2.out.belowN b3
  clear hck b3
  by_cases hE : E ≠ 0
  · have hqn : (E != 0) = true := by rw [bne_iff_ne]; exact hE
    have HRE : Hid (RES = ([], E)) := by
      have := HRd2.out
      rwa [if_pos hE] at this
    clear HRd2
    go_wp2_with fail
    go_ret2
    exact ⟨_, [], 0, by rw [HRE.out]; rfl, by rw [HRE.out]; rfl, Oy.nil, by simp, HB3.out⟩
  obtain rfl := Decidable.not_not.mp hE
  have HRE : Hid (RES = (L, 0)) := by
    have := HRd2.out
    rwa [if_neg (by simp)] at this
  clear HRd2 hE
  go_wp2_with fail
  go_ret2
  exact ⟨_, l, _, by rw [HRE.out]; rfl, by rw [HRE.out]; exact HD.out, HN3.out, hl, HB3.out⟩
end Go.Proofs.YthpcbbkpjggjbaaGreatDoor
namespace Go.Proofs.YthpcbbkpjggjbaaGreatDoor
open Go.RowKit
open Nn (Name)
def kI (W0 : List Im) (p : List Name) : List Im := Wk.kids (fun x => x.it.nms) W0 p
def dI (W0 : List Im) (k : Nat) (p : List Name) : List Im := Wk.dfs (fun x => x.it.nms) (fun x => x.it.dir) W0 k p
def blk (W0 : List Im) (k : Nat) (x : Im) : List Im := x :: (if x.it.dir then dI W0 k x.it.nms else [])
theorem dI_succ (W0 : List Im) (k : Nat) (p : List Name) : dI W0 (k + 1) p = (kI W0 p).flatMap (blk W0 k) := rfl
theorem kI_its (W0 : List Im) (p : List Name) : its (kI W0 p) = Wk.kids Wk.It.nms (its W0) p := by
  unfold its kI Wk.kids
  rw [List.filter_map]
  rfl
theorem mem_kI {W0 : List Im} {p : List Name} {x : Im} : x ∈ kI W0 p ↔ x ∈ W0 ∧ ∃ s, x.it.nms = p ++ [s] := Wk.mem_kids
theorem mem_dI {W0 : List Im} : ∀ (k : Nat) (p : List Name) (x : Im), x ∈ dI W0 k p → x ∈ W0
  | 0, _, _, h => absurd h List.not_mem_nil
  | k + 1, p, x, h => by
    rw [dI_succ, List.mem_flatMap] at h
    obtain ⟨y, hy, hx⟩ := h
    rcases List.mem_cons.1 hx with e | hx
    · rw [e]; exact (mem_kI.1 hy).1
    · split at hx
      · exact mem_dI k _ x hx
      · exact absurd hx List.not_mem_nil
theorem mem_blk {W0 : List Im} {k : Nat} {x y : Im} (hx : x ∈ W0) (hy : y ∈ blk W0 k x) : y ∈ W0 := by
  rcases List.mem_cons.1 hy with e | hy
  · rw [e]; exact hx
  · split at hy
    · exact mem_dI k _ y hy
    · exact absurd hy List.not_mem_nil
def Nb0 (p : List Name) (rest : List Im) : Prop := ∀ y, rest.head? = some y → ¬ ∃ r, r ≠ [] ∧ y.it.nms = p ++ r
theorem nb_sub {W0 : List Im} {k : Nat} {p : List Name} {s : Name} {K rest : List Im} (hK : ∀ y ∈ K, ∃ t, y.it.nms = p ++ [t]) (h : Nb0 p rest) : Nb0 (p ++ [s]) (K.flatMap (blk W0 k) ++ rest) := by
  intro y hy ⟨r, hr, e⟩
  cases K with
  | nil =>
    refine h y hy ⟨s :: r, by simp, ?_⟩
    rw [e]; simp
  | cons z K =>
    have hz : (z :: K).flatMap (blk W0 k) ++ rest = z :: ((if z.it.dir then dI W0 k z.it.nms else []) ++ (K.flatMap (blk W0 k) ++ rest)) := by
      rw [List.flatMap_cons]; simp [blk]
    rw [hz, List.head?_cons, Option.some.injEq] at hy
    subst hy
    obtain ⟨t, ht⟩ := hK z List.mem_cons_self
    rw [ht] at e
    have h1 := congrArg List.length e
    have h2 : 0 < r.length := List.length_pos_iff.2 hr
    rw [List.length_append, List.length_append, List.length_append] at h1
    simp only [List.length_cons, List.length_nil] at h1
    omega
theorem tails_inj {l m : List Name} (hl : ∀ s ∈ l, (47 : UInt8) ∉ s) (hm : ∀ s ∈ m, (47 : UInt8) ∉ s) (h : Nn.tails l = Nn.tails m) : l = m := by
  have h1 := Nn.cut_tails hl
  have h2 := Nn.cut_tails hm
  rw [h, h2] at h1
  exact (List.cons.inj h1).2.symm
theorem nms_noslash {x : Im} (h : Wk.Ok1 x.it) : ∀ s ∈ x.it.nms, (47 : UInt8) ∉ s := Nn.noslash (Wk.errs_nms h)
theorem nms_last {x : Im} {p : List Name} {s : Name} (e : x.it.nms = p ++ [s]) : Wk.par x.it = Nn.tails p ∧ Wk.nam x.it = s := by
  unfold Wk.par Wk.nam
  rw [e]
  simp
theorem Plt.set4 {base b m n : Nat} {fx mn mx bt : Int} {w : World} {left left' : List Im} {bs : List Blb} (h : Plt base b m fx mn mx bt w left bs n) (lv : Value) (h1 : Ims w lv left') (h2 : ∀ a n c, lv = .slice (some a) n c → left' ≠ [] → a.block < base) :
    Plt base b m fx mn mx bt (w.setCell ⟨b, 4, none⟩ lv) left' bs n ∧ Kt 81 w (w.setCell ⟨b, 4, none⟩ lv) ∧ Below base w (w.setCell ⟨b, 4, none⟩ lv) := by
  obtain ⟨⟨lv0, bv, p1, p2, p3, p4⟩, hm, ha, hc⟩ := h
  have hk : Kt 81 w (w.setCell ⟨b, 4, none⟩ lv) := Kt.set p1 4 lv
  have hb : Below base w (w.setCell ⟨b, 4, none⟩ lv) := (Below.refl _ w).setCell ha _
  refine ⟨⟨⟨lv, bv, ?_, h1.keepb hb h2, h2, own_kt p4 hk (by decide)⟩, hm.obj fun es c ho => hk.obj _ _ ho (fun ⟨_, _, e⟩ => by cases e), ha, hc⟩, hk, hb⟩
  have := set_at p1 4 lv
  simpa using this
structure Gd (fx mn mx bt : Int) (W0 : List Im) : Prop where
  right : Wk.Right (its W0)
  ok : ∀ x ∈ W0, x.Ok
  way : wayN fx mn mx bt = 0
theorem Gd.ok1 {fx mn mx bt : Int} {W0 : List Im} (h : Gd fx mn mx bt W0) {x : Im} (hx : x ∈ W0) : Wk.Ok1 x.it := Wk.iErr_ok (h.right.each _ (List.mem_map_of_mem hx))
def DirOk (base b m : Nat) (fx mn mx bt : Int) (W0 : List Im) (k : Nat) : Prop := ∀ (p : List Name) (rest : List Im) (bs : List Blb) (c : Nat) (w : World), p.length + k = 9 → (∀ s ∈ p, (47 : UInt8) ∉ s) → (∀ y ∈ rest, y ∈ W0) → Nb0 p rest →
  c + 300 * (dI W0 k p).length ≤ 800000000 → Pq base b m fx mn mx bt c w (dI W0 k p ++ rest) bs → (∀ W, Below base w W → Tabs W) → ∀ R, R = Wk.plantDir (cutF fx mn mx bt) (its W0) k p (pl bs) →
  Calls Tryz.prog 33 #[.pointer (some ⟨b, 0, none⟩), .string (mkB (Nn.tails p))] w fun e w' => ∃ id, e = .returned (.tuple #[idV id, .int .i64 R.2.2]) ∧ id.length = 8 ∧ Pf base w w' ∧
    (R.2.2 = 0 → id = R.2.1 ∧ ∃ bs', pl bs' = R.1 ∧ Pq base b m fx mn mx bt (c + 300 * (dI W0 k p).length + 1) w' rest bs')
theorem lit_small {n : Int} (h0 : -9223372036854775808 ≤ n) (h1 : n ≤ 9223372036854775807) : (Lit.int .i64 n).wf = true := by
  simp [Lit.wf, IntKind.min, IntKind.max, IntKind.signed, IntKind.bits]
  exact ⟨h0, h1⟩
theorem node_any {base b m c : Nat} {fx mn mx bt : Int} {W0 : List Im} (hg : Gd fx mn mx bt W0) {k : Nat} (hd : 1 ≤ k → DirOk base b m fx mn mx bt W0 k) {p : List Name} {s : Name} {x : Im} (hx : x ∈ W0) (hs : x.it.nms = p ++ [s]) (hk : p.length + (k + 1) = 9) (rest : List Im) (hr : ∀ y ∈ rest, y ∈ W0) (hn : x.it.dir = true → Nb0 (p ++ [s]) rest) (bs : List Blb) (w : World)
    (hc : c + 300 * (blk W0 k x).length ≤ 800000000) (h : Pq base b m fx mn mx bt c w ((if x.it.dir then dI W0 k x.it.nms else []) ++ rest) bs) (hT : ∀ W, Below base w W → Tabs W) (T : List Pk.Bl × List Wk.Bs × Int) (hTt : T = Wk.thing (cutF fx mn mx bt) (Wk.plantDir (cutF fx mn mx bt) (its W0) k) x.it (pl bs)) :
    Calls Tryz.prog 46 #[.pointer (some ⟨b, 0, none⟩), imV x] w fun e w' => ∃ (n : Nod) (a : Option Addr) (q q' : Nat), e = .returned (.tuple #[.agg (ndC n (.slice a q q')).toArray, .int .i64 T.2.2]) ∧ Pf base w w' ∧
      (T.2.2 = 0 → q = n.parts.length ∧ n.nd = Wk.node x.it T.2.1 ∧ NdG w' n (ndC n (.slice a q q')) ∧ ∃ bs', pl bs' = T.1 ∧ Pq base b m fx mn mx bt (c + 300 * (blk W0 k x).length) w' rest bs') := by
  have hok1 := hg.ok1 hx
  have hxo := hg.ok x hx
  have hlen : (blk W0 k x).length = 1 + (if x.it.dir then dI W0 k x.it.nms else []).length := by simp [blk]; omega
  have hln := fun W => lastName_any x.path (Wk.par x.it) (Wk.nam x.it) W (path_parts hok1) (Wk.nam_slash hok1) (path_size hok1 hxo.path)
  have hnmsz : (mkB (Wk.nam x.it)).size ≤ 9223372036854775807 := by
    have h1 := Wk.path_long hok1
    have h2 := hxo.path
    rw [Lib.size_eq] at h2
    have h3 : x.it.path.length = x.path.data.toList.length := rfl
    rw [mkB, Lib.size_eq]
    simp
    omega
  have hok : ∀ (sz : Int) (ids : List Wk.Bs) (lk : ByteArray), 0 ≤ sz → sz ≤ 9223372036854775807 → lk.size ≤ 9223372036854775807 → (∀ t ∈ ids, t.length = 8) → Nod.Ok ⟨mkB (Wk.nam x.it), x.kind, x.mode, x.time, sz, ids, lk⟩ := fun sz ids lk h0 h1 h2 h3 => by
    have hkd : x.kind = 1 ∨ x.kind = 2 ∨ x.kind = 3 := hok1.kind
    have hmd : 0 ≤ x.mode ∧ x.mode ≤ 511 := hok1.mode
    exact ⟨lit_small (by show _ ≤ x.kind; omega) (by show x.kind ≤ _; omega), lit_small (by show _ ≤ x.mode; omega) (by show x.mode ≤ _; omega), hxo.time, lit_small (by show _ ≤ sz; omega) h1, hnmsz, h2, h3⟩
  rcases hok1.kind with e1 | e1 | e1
  · have e1' : x.kind = 1 := e1
    have hdir : x.it.dir = false := by unfold Wk.It.dir; rw [e1]; rfl
    simp only [hdir, Bool.false_eq_true, if_false, List.nil_append, List.length_nil] at h hlen
    have hbs : x.bytes.size ≤ 4096 := by
      have := hok1.file e1
      rw [Lib.size_eq]; exact this
    have hT1 : T = Wk.pieces (cutF fx mn mx bt x.bytes.data.toList) (pl bs) := by rw [hTt]; unfold Wk.thing; rw [if_pos e1]; rfl
    refine (node_file base b m c fx mn mx bt rest bs x (mkB (Wk.nam x.it)) w h e1' (by omega) hg.way hbs hln T hT1).mono ?_
    rintro e w' ⟨a, n, c', rfl, hf, hz⟩
    refine ⟨⟨mkB (Wk.nam x.it), x.kind, x.mode, x.time, x.bytes.size, T.2.1, ⟨#[]⟩⟩, a, n, c', by rw [← e1'], hf, fun hE => ?_⟩
    obtain ⟨o1, o2, o3, bs', o4, o5⟩ := hz hE
    obtain ⟨a1, c1, e2⟩ := own_form o1
    cases e2
    refine ⟨rfl, ?_, ⟨_, rfl, rx_own o1 rfl o2, own_type o1, hok _ _ _ (by omega) (by omega) (by decide) o2⟩, bs', o4, o5.mono (by omega)⟩
    show Td.Nd.mk _ _ _ _ _ _ _ = Td.Nd.mk _ _ _ _ _ _ _
    have e3 : x.it.kind = 1 := e1
    rw [if_pos e3, if_neg (by rw [e3]; decide), Lib.size_eq]
    rfl
  · have e1' : x.kind = 2 := e1
    have hdir : x.it.dir = true := by unfold Wk.It.dir; rw [e1]; rfl
    rw [if_pos hdir] at h hlen
    have hk1 : 1 ≤ k := by
      have := Wk.names_few hok1
      rw [hs] at this
      simp at this
      omega
    have hT1 : T = ((Wk.plantDir (cutF fx mn mx bt) (its W0) k x.it.nms (pl bs)).1, [(Wk.plantDir (cutF fx mn mx bt) (its W0) k x.it.nms (pl bs)).2.1], (Wk.plantDir (cutF fx mn mx bt) (its W0) k x.it.nms (pl bs)).2.2) := by
      rw [hTt]; unfold Wk.thing; rw [if_neg (by rw [e1]; decide), if_pos e1]
    obtain ⟨R, hR⟩ : ∃ R, R = Wk.plantDir (cutF fx mn mx bt) (its W0) k x.it.nms (pl bs) := ⟨_, rfl⟩
    rw [← hR] at hT1
    subst hT1
    have hpe : x.path = mkB (Nn.tails x.it.nms) := by
      have h1 : x.it.path = Nn.tails x.it.nms := Wk.path_tails hok1
      have h2 : x.path = mkB x.it.path := rfl
      rw [h2, h1]
    refine (node_dir base b m c (c + 300 * (dI W0 k x.it.nms).length + 1) fx mn mx bt _ rest bs x (mkB (Wk.nam x.it)) w h e1' hln R (fun W hb hW => ?_)).mono ?_
    · rw [hpe]
      exact hd hk1 x.it.nms rest bs c W (by rw [hs, List.length_append]; simp only [List.length_cons, List.length_nil]; omega) (nms_noslash hok1) hr (by rw [hs]; exact hn hdir) (by omega) hW (fun W' hW' => hT W' (hb.trans hW')) R hR
    · rintro e w' ⟨a, id, rfl, hf, h8, hrow, hz⟩
      refine ⟨⟨mkB (Wk.nam x.it), x.kind, x.mode, x.time, 0, [id], ⟨#[]⟩⟩, a, 1, 1, by rw [← e1'], hf, fun hE => ?_⟩
      obtain ⟨rfl, bs', o4, o5⟩ := hz hE
      have hids : ∀ t ∈ [R.2.1], t.length = 8 := fun t ht => by rw [List.mem_singleton.1 ht]; exact h8
      have hrow' : w'.ownsRow w.heap.size 39 8 (.slice a 1 1) 1 (rowR idC [R.2.1]) := by
        have : rowR idC [R.2.1] = idC R.2.1 := by simp [rowR]
        rw [this]; exact hrow
      refine ⟨rfl, ?_, ⟨_, rfl, rx_own hrow' rfl hids, own_type hrow', hok _ _ _ (by omega) (by omega) (by decide) hids⟩, bs', o4, o5.mono (by omega)⟩
      show Td.Nd.mk _ _ _ _ _ _ _ = Td.Nd.mk _ _ _ _ _ _ _
      have e3 : x.it.kind = 2 := e1
      rw [if_neg (by rw [e3]; decide), if_neg (by rw [e3]; decide)]
      rfl
  · have e1' : x.kind = 3 := e1
    have hdir : x.it.dir = false := by unfold Wk.It.dir; rw [e1]; rfl
    simp only [hdir, Bool.false_eq_true, if_false, List.nil_append, List.length_nil] at h hlen
    have hT1 : T = (pl bs, [], 0) := by rw [hTt]; unfold Wk.thing; rw [if_neg (by rw [e1]; decide), if_neg (by rw [e1]; decide)]
    subst hT1
    refine (node_link base b m c fx mn mx bt rest bs x (mkB (Wk.nam x.it)) w h e1' hln).mono ?_
    rintro e w' ⟨rfl, hf, hz⟩
    refine ⟨⟨mkB (Wk.nam x.it), x.kind, x.mode, x.time, 0, [], x.bytes⟩, none, 0, 0, by rw [← e1'], hf, fun _ => ?_⟩
    refine ⟨rfl, ?_, ⟨_, rfl, ⟨.inl ⟨⟨_, _, rfl⟩, rfl⟩, ⟨_, _, _, rfl, Nat.le_refl _, by omega⟩⟩, (fun a m c e => by cases e), hok _ _ _ (by omega) (by omega) (by have := hxo.bytes; omega) (fun t ht => absurd ht List.not_mem_nil)⟩, bs, rfl, hz.mono (by omega)⟩
    show Td.Nd.mk _ _ _ _ _ _ _ = Td.Nd.mk _ _ _ _ _ _ _
    have e3 : x.it.kind = 3 := e1
    rw [if_neg (by rw [e3]; decide), if_pos e3]
    rfl
end Go.Proofs.YthpcbbkpjggjbaaGreatDoor
namespace Go.Proofs.YthpcbbkpjggjbaaGreatDoor
open Go.RowKit
set_option maxRecDepth 4000
open Nn (Name)
def lenV : Value → Nat
  | .slice _ n _ => n
  | _ => 0
theorem Oy.pf {base base' : Nat} {w W : World} {v : Value} {l : List Nod} (h : Oy 7 104 NdG base' w v l) (hk : Pf base w W) : Oy 7 104 NdG base' W v l :=
  h.obj (fun t c ⟨u, e, hr, ht, ho⟩ => by
    refine ⟨u, e, ⟨?_, hr.room⟩, fun a m c hv => ?_, ho⟩
    · rcases hr.at_ with h1 | ⟨bk, o, cap, h1, h2, h3⟩
      · exact .inl h1
      · obtain ⟨cur, fr, hb⟩ := ht _ _ _ h1
        have hb' := hk.cells hb (by decide) (by decide)
        refine .inr ⟨bk, o, cap, h1, Nat.lt_of_lt_of_le h2 hk.size, fun j t hj r u hu => ?_⟩
        rw [← h3 j t hj r u hu]
        simp only [World.cell?] at hb hb' ⊢
        rw [hb, hb']
    · obtain ⟨cur, fr, hb⟩ := ht a m c hv
      exact ⟨cur, fr, hk.cells hb (by decide) (by decide)⟩) fun g cur fr ho => hk.cells ho (by decide) (by decide)
theorem Pf.of_pl {base : Nat} {A B : World} (hk : Kt 81 A B) (hb : Below base A B) : Pf base A B :=
  ⟨hb, ⟨hk.os, hk.tape, hk.output, hk.size, fun k o ho hp => hk.obj k o ho (fun ⟨_, _, e⟩ => by subst e; exact hp.2 rfl)⟩⟩
theorem take_flat {α β : Type} {f : α → List β} {K : List α} {j : Nat} {x : α} (hx : K[j]? = some x) : ((K.take (j + 1)).flatMap f).length = ((K.take j).flatMap f).length + (f x).length ∧ ((K.take (j + 1)).flatMap f).length ≤ (K.flatMap f).length := by
  have hlt := (List.getElem?_eq_some_iff.1 hx).1
  constructor
  · rw [List.take_succ_eq_append_getElem hlt, (List.getElem?_eq_some_iff.1 hx).2, List.flatMap_append, List.length_append]
    simp
  · conv => rhs; rw [← List.take_append_drop (j + 1) K]
    rw [List.flatMap_append, List.length_append]
    omega
theorem things_step {cutf : Wk.Bs → List Wk.Bs} {sub : List Name → List Pk.Bl → List Pk.Bl × Wk.Bs × Int} {K : List Im} {j : Nat} {x : Im} (hx : K[j]? = some x) {l : List Pk.Bl} {T : List Pk.Bl × List Td.Nd × Int} {done : List Td.Nd}
    (h : T = ((Wk.things cutf sub (its (K.drop j)) l).1, done ++ (Wk.things cutf sub (its (K.drop j)) l).2.1, (Wk.things cutf sub (its (K.drop j)) l).2.2)) :
    ((Wk.thing cutf sub x.it l).2.2 ≠ 0 → T.2.2 = (Wk.thing cutf sub x.it l).2.2) ∧
    ((Wk.thing cutf sub x.it l).2.2 = 0 → T = ((Wk.things cutf sub (its (K.drop (j + 1))) (Wk.thing cutf sub x.it l).1).1, (done ++ [Wk.node x.it (Wk.thing cutf sub x.it l).2.1]) ++ (Wk.things cutf sub (its (K.drop (j + 1))) (Wk.thing cutf sub x.it l).1).2.1, (Wk.things cutf sub (its (K.drop (j + 1))) (Wk.thing cutf sub x.it l).1).2.2)) := by
  have hlt := (List.getElem?_eq_some_iff.1 hx).1
  have e0 : its (K.drop j) = x.it :: its (K.drop (j + 1)) := by
    rw [List.drop_eq_getElem_cons hlt, (List.getElem?_eq_some_iff.1 hx).2]; rfl
  rw [e0, Wk.things] at h
  constructor
  · intro hE
    rw [h]
    dsimp only
    rw [if_pos hE]
  · intro hE
    rw [h]
    dsimp only
    rw [if_neg (fun q => q hE)]
    simp
set_option maxHeartbeats 4000000 in
set_option maxRecDepth 10000 in
theorem dir_step {base b m : Nat} {fx mn mx bt : Int} {W0 : List Im} (hg : Gd fx mn mx bt W0) (k : Nat) (ih : 1 ≤ k → DirOk base b m fx mn mx bt W0 k) : DirOk base b m fx mn mx bt W0 (k + 1) := by
  intro p rest bs c w hpk hps hr hn hc h hT R hR
  obtain ⟨i0, hi, hz0, hz1, hz2⟩ := info_of' info_nd
  have hbase := h.base
  obtain ⟨K, hK⟩ : ∃ K, K = kI W0 p := ⟨_, rfl⟩
  have HKm : Hid (∀ x ∈ K, x ∈ W0 ∧ ∃ s, x.it.nms = p ++ [s]) := fun x hx => by rw [hK] at hx; exact mem_kI.1 hx
  rw [dI_succ, ← hK] at h hc
  rw [dI_succ, ← hK]
  rw [Wk.plantDir, ← kI_its, ← hK] at hR
  obtain ⟨T, hTd⟩ : ∃ T, T = Wk.things (cutF fx mn mx bt) (Wk.plantDir (cutF fx mn mx bt) (its W0) k) (its K) (pl bs) := ⟨_, rfl⟩
  rw [← hTd] at hR
  have HT0 : Hid (T = ((Wk.things (cutF fx mn mx bt) (Wk.plantDir (cutF fx mn mx bt) (its W0) k) (its (K.drop 0)) (pl bs)).1, nds [] ++ (Wk.things (cutF fx mn mx bt) (Wk.plantDir (cutF fx mn mx bt) (its W0) k) (its (K.drop 0)) (pl bs)).2.1, (Wk.things (cutF fx mn mx bt) (Wk.plantDir (cutF fx mn mx bt) (its W0) k) (its (K.drop 0)) (pl bs)).2.2)) := by
    show _ = _
    rw [hTd]; simp [nds]
  have HRR : Hid (R = if T.2.2 ≠ 0 then ([], [], T.2.2) else if (Td.write T.2.1).2 ≠ 0 then ([], [], (Td.write T.2.1).2) else Wk.into T.1 (2, (Td.write T.2.1).1)) := hR
  obtain ⟨W1, hW1⟩ : ∃ W1, W1 = w.alloc (.cells #[.int .u8 0, .int .u8 0, .int .u8 0, .int .u8 0, .int .u8 0, .int .u8 0, .int .u8 0, .int .u8 0] 39) := ⟨_, rfl⟩
  have hB1 : Below w.heap.size w W1 := by rw [hW1]; exact (Below.refl _ w).alloc (Nat.le_refl _) _
  have HF1 : Hid (Pf base w W1) := Pf.of_below hB1 hbase
  have HI1 : Hid (W1.heap[w.heap.size]? = some (.cells Z8 39 (0, 0))) := by rw [hW1]; exact heap_alloc_new w _
  have HQ1 : Hid (Pq base b m fx mn mx bt (c + 300 * ((K.take 0).flatMap (blk W0 k)).length) W1 ((K.drop 0).flatMap (blk W0 k) ++ rest) bs) := h.below hB1
  have HS1 : Hid (w.heap.size + 1 ≤ W1.heap.size) := by show _ ≤ _; rw [hW1, World.size_alloc]; exact Nat.le_refl _
  have HTb : Hid (∀ W, Below base w W → Tabs W) := hT
  have HG : Hid (Gd fx mn mx bt W0) := hg
  have HIh : Hid (1 ≤ k → DirOk base b m fx mn mx bt W0 k) := ih
  have Hmisc : Hid (p.length + (k + 1) = 9 ∧ (∀ s ∈ p, (47 : UInt8) ∉ s) ∧ (∀ y ∈ rest, y ∈ W0) ∧ Nb0 p rest ∧ c + 300 * (K.flatMap (blk W0 k)).length ≤ 800000000) := ⟨hpk, hps, hr, hn, hc⟩
  obtain ⟨N, hN⟩ : ∃ N, N = K.length := ⟨_, rfl⟩
  have HN : Hid (N = K.length) := hN
  clear hTd hR hK h hB1 hT hg ih hpk hps hr hn hc hN
  go_enter Tryz.func33, Tryz.ntmps33
  go_upto_region 1 with fail
  rw [← hW1]
  clear hW1
  go_wp2_with fail
  go_loopw [6] (fun v wr => ∃ (j : Nat) (l : List Nod) (bk : List Blb), j ≤ N ∧ l.length = j ∧ lenV v = j ∧
    Hid (T = ((Wk.things (cutF fx mn mx bt) (Wk.plantDir (cutF fx mn mx bt) (its W0) k) (its (K.drop j)) (pl bk)).1, nds l ++ (Wk.things (cutF fx mn mx bt) (Wk.plantDir (cutF fx mn mx bt) (its W0) k) (its (K.drop j)) (pl bk)).2.1, (Wk.things (cutF fx mn mx bt) (Wk.plantDir (cutF fx mn mx bt) (its W0) k) (its (K.drop j)) (pl bk)).2.2)) ∧
    Hid (Pq base b m fx mn mx bt (c + 300 * ((K.take j).flatMap (blk W0 k)).length) wr ((K.drop j).flatMap (blk W0 k) ++ rest) bk) ∧ Hid (Oy 7 104 NdG (w.heap.size + 1) wr v l) ∧ Hid (Pf base w wr) ∧ Hid (wr.heap[w.heap.size]? = some (.cells Z8 39 (0, 0)))) (fun v _ => N - lenV v)
  case atStart => exact ⟨0, [], bs, by omega, rfl, rfl, HT0, HQ1, Oy.nil, HF1, HI1⟩
  case round =>
    clear HT0 HQ1 HF1 HI1 HS1
    obtain ⟨j, l, bk, hj, hlj, hlv, HTj, HQ, HO, HF, HI⟩ := hrel
    by_cases hlt : j < N
    · have hjK : j < K.length := by rw [← HN.out]; exact hlt
      obtain ⟨x, hx⟩ : ∃ x, K[j]? = some x := ⟨_, List.getElem?_eq_getElem hjK⟩
      obtain ⟨hxW, s, hs⟩ := HKm.out x (List.mem_of_getElem? hx)
      have hok1 := HG.out.ok1 hxW
      have hxo := HG.out.ok x hxW
      obtain ⟨hpar, hnam⟩ := nms_last hs
      have hpc := fun W => parent_any x.path (Wk.par x.it) (Wk.nam x.it) W (path_parts hok1) (Wk.nam_slash hok1) (path_size hok1 hxo.path)
      rw [hpar] at hpc
      have hdrop : K.drop j = x :: K.drop (j + 1) := by rw [List.drop_eq_getElem_cons hjK, (List.getElem?_eq_some_iff.1 hx).2]
      obtain ⟨rr, hrr⟩ : ∃ rr, rr = (K.drop (j + 1)).flatMap (blk W0 k) ++ rest := ⟨_, rfl⟩
      have hleft : (K.drop j).flatMap (blk W0 k) ++ rest = x :: ((if x.it.dir then dI W0 k x.it.nms else []) ++ rr) := by
        rw [hdrop, List.flatMap_cons, hrr]; simp [blk]
      have HQx : Hid (Pq base b m fx mn mx bt (c + 300 * ((K.take j).flatMap (blk W0 k)).length) wr (x :: ((if x.it.dir then dI W0 k x.it.nms else []) ++ rr)) bk) := by rw [← hleft]; exact HQ.out
      obtain ⟨hq1, nq, hq2, hpl⟩ := HQx.out
      obtain ⟨⟨lv, bv, p1, p2, p3, p4⟩, hmp, ha, hm⟩ := hpl
      obtain ⟨la, lc, rfl, hlc1, hlc2⟩ := p2.slice
      obtain ⟨kb, ko, rfl, hkb, x0, x1, x2, x3, x4⟩ := p2.item 0 x rfl
      rw [Nat.zero_mul, Nat.add_zero] at x0 x1 x2 x3 x4
      obtain ⟨LL, hLL⟩ : ∃ LL, LL = (if x.it.dir then dI W0 k x.it.nms else []) ++ rr := ⟨_, rfl⟩
      rw [← hLL] at p2
      have hlv' := p2.rest
      obtain ⟨A1, hA1⟩ : ∃ A1, (if lc = 1 then some (⟨kb, ko, none⟩ : Addr) else some ⟨kb, ko + 5, none⟩) = A1 := ⟨_, rfl⟩
      have hA1b : ∀ a n c, Value.slice A1 LL.length (lc - 1) = .slice (some a) n c → LL ≠ [] → a.block < base := fun a n c e _ => by
        rw [← hA1] at e
        have hkb := p3 ⟨kb, ko, none⟩ _ _ rfl (by simp)
        split at e <;> (cases e; exact hkb)
      rw [hA1] at hlv'
      have hPl : Plt base b m fx mn mx bt wr (x :: LL) bk nq := by rw [hLL]; exact ⟨⟨_, bv, p1, by rw [← hLL]; exact p2, p3, p4⟩, hmp, ha, hm⟩
      obtain ⟨hs4, hs5, hs6⟩ := hPl.set4 (.slice A1 LL.length (lc - 1)) hlv' hA1b
      obtain ⟨WA, hWA⟩ : ∃ WA, WA = (wr.setCell ⟨b, 4, none⟩ (.slice A1 LL.length (lc - 1))).alloc (.cells #[.string x.path, .int .i64 x.kind, .int .i64 x.mode, .int .i64 x.time, .string x.bytes] 27) := ⟨_, rfl⟩
      have hbs : base ≤ (wr.setCell ⟨b, 4, none⟩ (.slice A1 LL.length (lc - 1))).heap.size := Nat.le_trans hbase (Nat.le_trans HF.out.size hs5.size)
      have hbA : Below (wr.setCell ⟨b, 4, none⟩ (.slice A1 LL.length (lc - 1))).heap.size (wr.setCell ⟨b, 4, none⟩ (.slice A1 LL.length (lc - 1))) WA := by rw [hWA]; exact (Below.refl _ _).alloc (Nat.le_refl _) _
      have HFA : Hid (Pf base wr WA) := (Pf.of_pl hs5 hs6).trans (Pf.of_below hbA hbs)
      have HQA : Hid (Pq base b m fx mn mx bt (c + 300 * ((K.take j).flatMap (blk W0 k)).length) WA ((if x.it.dir then dI W0 k x.it.nms else []) ++ rr) bk) := by
        rw [← hLL]
        exact ⟨hq1, nq, hq2, hs4.below hbA⟩
      obtain ⟨tf1, tf2⟩ := take_flat (f := blk W0 k) hx
      obtain ⟨t, ht⟩ : ∃ t, t = Wk.thing (cutF fx mn mx bt) (Wk.plantDir (cutF fx mn mx bt) (its W0) k) x.it (pl bk) := ⟨_, rfl⟩
      have HTs := things_step hx HTj.out
      rw [← ht] at HTs
      have HTS1 : Hid (t.2.2 ≠ 0 → T.2.2 = t.2.2) := HTs.1
      have HTS2 : Hid (t.2.2 = 0 → T = ((Wk.things (cutF fx mn mx bt) (Wk.plantDir (cutF fx mn mx bt) (its W0) k) (its (K.drop (j + 1))) t.1).1, (nds l ++ [Wk.node x.it t.2.1]) ++ (Wk.things (cutF fx mn mx bt) (Wk.plantDir (cutF fx mn mx bt) (its W0) k) (its (K.drop (j + 1))) t.1).2.1, (Wk.things (cutF fx mn mx bt) (Wk.plantDir (cutF fx mn mx bt) (its W0) k) (its (K.drop (j + 1))) t.1).2.2)) := HTs.2
      have hrrW : ∀ y ∈ rr, y ∈ W0 := fun y hy => by
        rw [hrr] at hy
        rcases List.mem_append.1 hy with q | q
        · obtain ⟨z, hz, hyz⟩ := List.mem_flatMap.1 q
          exact mem_blk (HKm.out z (List.mem_of_mem_drop hz)).1 hyz
        · exact Hmisc.out.2.2.1 y q
      have hnode := node_any HG.out HIh.out hxW hs Hmisc.out.1 rr hrrW (fun _ => by rw [hrr]; exact nb_sub (fun y hy => (HKm.out y (List.mem_of_mem_drop hy)).2) Hmisc.out.2.2.2.1) bk WA (by have := Hmisc.out.2.2.2.2; omega) HQA.out (fun W hW => HTb.out W ((HF.out.low.trans HFA.out.low).trans hW)) t ht
      have Hcj : Hid (c + 300 * ((K.take (j + 1)).flatMap (blk W0 k)).length = c + 300 * ((K.take j).flatMap (blk W0 k)).length + 300 * (blk W0 k x).length) := by show _ = _; omega
      rw [← Hcj.out] at hnode
      have HRr : Hid (rr = (K.drop (j + 1)).flatMap (blk W0 k) ++ rest) := hrr
      obtain ⟨d0, d1, d2, d3, d4, d5, d6, dlt⟩ := sev_at p1
      have d4f := free_at p1 4
      rw [← hLL] at d4
      have heq : ((mkB (Nn.tails p)).toList == (mkB (Nn.tails p)).toList) = true := by simp
      have hpc' : ∀ W, Calls Tryz.prog 39 #[.string x.path] W fun e w' => e = .returned (.string (mkB (Nn.tails p))) ∧ w' = W := hpc
      generalize mkB (Nn.tails p) = PS at *
      obtain ⟨xp, xk, xm, xt, xb⟩ := x
      dsimp only at *
      rw [List.length_cons] at d4 hlc1
      generalize LL.length = LN at *
      clear hpc HTs tf1 tf2 hs4 hs5 hs6 hbs hbA hPl hlv' hA1b p1 p2 p3 p4 hmp hq1 hq2 hrr hLL hleft hdrop hxo hok1 hpar hnam ht hjK hrrW HQx HQ HTj ha hm hs hxW
      go_wp2_with fail
      refine (hpc' _).mono ?_
      rintro e u ⟨rfl, hu⟩
      obtain rfl := hu.symm
      clear hpc' hu
      go_wp2_with fail
      rw [← hWA]
      refine hnode.mono ?_
      rintro e w3 ⟨n, a, q, q', rfl, f3, hz⟩
      have HF3 : Hid (Pf base w w3) := (HF.out.trans HFA.out).trans f3
      have HO3 : Hid (Oy 7 104 NdG (w.heap.size + 1) w3 u6 l) := (HO.out.pf HFA.out).pf f3
      have hI3 : w3.heap[w.heap.size]? = some (.cells Z8 39 (0, 0)) := f3.cells (HFA.out.cells HI.out (by decide) (by decide)) (by decide) (by decide)
      have HI3 : Hid (w3.heap[w.heap.size]? = some (.cells Z8 39 (0, 0))) := hI3
      have hs3 : w.heap.size + 1 ≤ w3.heap.size := (Array.getElem?_eq_some_iff.1 hI3).1
      obtain ⟨nn, nk, nm, nt, ns, np, nl⟩ := n
      dsimp only [ndC] at *
      clear hWA hnode f3 HF HFA HO HI d0 d1 d2 d3 d4 d5 d6 d4f x0 x1 x2 x3 x4 heq dlt hA1 hlc1 hlc2 hkb
      by_cases hE : t.2.2 = 0
      · obtain ⟨hq, hnd, hng, bk', hb1, hb2⟩ := hz hE
        have hT2 := HTS2.out hE
        rw [← hnd, ← hb1] at hT2
        rw [hE]
        have HT2 : Hid (T = ((Wk.things (cutF fx mn mx bt) (Wk.plantDir (cutF fx mn mx bt) (its W0) k) (its (K.drop (j + 1))) (pl bk')).1, nds (l ++ [⟨nn, nk, nm, nt, ns, np, nl⟩]) ++ (Wk.things (cutF fx mn mx bt) (Wk.plantDir (cutF fx mn mx bt) (its W0) k) (its (K.drop (j + 1))) (pl bk')).2.1, (Wk.things (cutF fx mn mx bt) (Wk.plantDir (cutF fx mn mx bt) (its W0) k) (its (K.drop (j + 1))) (pl bk')).2.2)) := by
          show _ = _
          rw [hT2]; simp [nds]
        have HQ3 : Hid (Pq base b m fx mn mx bt (c + 300 * ((K.take (j + 1)).flatMap (blk W0 k)).length) w3 ((K.drop (j + 1)).flatMap (blk W0 k) ++ rest) bk') := by rw [← HRr.out]; exact hb2
        obtain ⟨cc, o1, o2, o2l, o4⟩ := HO3.out
        have HO4 : Hid ((∀ c ∈ cc, c.length = 7) ∧ cc.length = l.length ∧ ∀ (j : Nat) t c, l[j]? = some t → cc[j]? = some c → NdG w3 t c) := ⟨o2, o2l, o4⟩
        have HNg : Hid (NdG w3 ⟨nn, nk, nm, nt, ns, np, nl⟩ [.string nn, .int .i64 nk, .int .i64 nm, .int .i64 nt, .int .i64 ns, .slice a q q', .string nl]) := hng
        have hl64 : l.length ≤ 100000000000 := by
          have h1 := HF3.out.size
          have h2 := Hmisc.out.2.2.2.2
          have h3 : K.length ≤ (K.flatMap (blk W0 k)).length := by
            have : ∀ L : List Im, L.length ≤ (L.flatMap (blk W0 k)).length := fun L => by
              induction L with
              | nil => simp
              | cons y L ih => rw [List.flatMap_cons, List.length_append, List.length_cons]; have : 1 ≤ (blk W0 k y).length := by simp [blk]
                               omega
            exact this K
          have h4 := HN.out
          omega
        clear hz hT2 hnd hb1 hb2 hng HTS1 HTS2 o2 o2l o4 HQA hI3 hq hE
        go_wp2_with (at_builtin; refine wpList_append_own _ rfl (.tmp 54) (.tmp 56) 101 rfl (w.heap.size + 1) 104 i0 (.agg #[.string ⟨#[]⟩, .int .i64 0, .int .i64 0, .int .i64 0, .int .i64 0, .slice none 0 0, .string ⟨#[]⟩]) 7 88 Tryz.underlying101 hi hz0 hz1 hz2 rfl (by decide) _ _ _ rfl ((o1.alloc _).alloc _) ⟨w3.heap.size + 1, 0, none⟩ 1 1 [.string nn, .int .i64 nk, .int .i64 nm, .int .i64 nt, .int .i64 ns, .slice a q q', .string nl] rfl rfl ?c1 ?c2 ?c3 ?c4 ?c5 ?_)
        case c1 => have := seven_new (w3.alloc (.cells #[.string nn, .int .i64 nk, .int .i64 nm, .int .i64 nt, .int .i64 ns, .slice a q q', .string nl] 104)) (.string nn) (.int .i64 nk) (.int .i64 nm) (.int .i64 nt) (.int .i64 ns) (.slice a q q') (.string nl) (T := 104); rwa [World.size_alloc] at this
        case c2 => simp [Value.oneCell']
        case c3 => unfold maxLen; omega
        case c4 => omega
        case c5 => first | omega | (simp; omega)
        intro v6 w5 hown5 hgrow _
        have o1' := (o1.alloc (.cells #[.string nn, .int .i64 nk, .int .i64 nm, .int .i64 nt, .int .i64 ns, .slice a q q', .string nl] 104)).alloc (.cells #[.string nn, .int .i64 nk, .int .i64 nm, .int .i64 nt, .int .i64 ns, .slice a q q', .string nl] 104)
        have hk5 : Kt 104 w3 w5 := (((Kt.refl _ w3).alloc _).alloc _).trans (Kt.of_grown hgrow fun g hg => by
          obtain ⟨cur, q, _⟩ := own_block o1' hg
          exact ⟨cur, _, q⟩)
        have hb5 : Below (w.heap.size + 1) w3 w5 := (((Below.refl _ w3).alloc hs3 _).alloc (by rw [World.size_alloc]; omega) _).grown hgrow (by rw [World.size_alloc, World.size_alloc]; omega) fun q hq => (o1'.lt q hq).1
        have HF5 : Hid (Pf base w w5) := HF3.out.then (hb5.mono (by omega)) hbase
        have HQ5 : Hid (Pq base b m fx mn mx bt (c + 300 * ((K.take (j + 1)).flatMap (blk W0 k)).length) w5 ((K.drop (j + 1)).flatMap (blk W0 k) ++ rest) bk') := HQ3.out.kt hk5 (hb5.mono (by omega)) (by decide) (by decide)
        have HI5 : Hid (w5.heap[w.heap.size]? = some (.cells Z8 39 (0, 0))) := hk5.cell HI3.out (by decide)
        have HOn : Hid (Oy 7 104 NdG (w.heap.size + 1) w5 v6 (l ++ [⟨nn, nk, nm, nt, ns, np, nl⟩])) := Oy.more HO4.out.1 HO4.out.2.1 (fun j t c a b => NdG.kt hk5 (HO4.out.2.2 j t c a b)) (by rw [hlj]; exact hown5) rfl (NdG.kt hk5 HNg.out)
        have hlv6 : lenV v6 = j + 1 := by
          obtain ⟨a6, c6, e6⟩ := own_form hown5
          rw [e6]
          rfl
        have hlj6 : (l ++ [(⟨nn, nk, nm, nt, ns, np, nl⟩ : Nod)]).length = j + 1 := by rw [List.length_append, hlj]; rfl
        obtain ⟨a6, c6, e6⟩ := own_form hown5
        subst e6
        clear hown5 hgrow hk5 hb5 o1 o1' HO4 HNg HF3 HI3 HQ3 HO3 Hcj HRr
        go_wp2_with fail
        go_roundw
        case measure =>
          show N - lenV _ < N - lenV _
          rw [hlv]
          have : lenV (.slice a6 (j + 1) c6) = j + 1 := hlv6
          first | omega | (rw [this]; omega)
        case rel => exact ⟨j + 1, _, bk', by omega, hlj6, hlv6, HT2, HQ5, HOn, HF5, HI5⟩
      · have hT2 := HTS1.out hE
        have hRe : R = ([], [], t.2.2) := by rw [HRR.out, if_pos (by rw [hT2]; exact hE), hT2]
        clear HRR
        obtain ⟨ER, hER⟩ : ∃ ER, t.2.2 = ER := ⟨_, rfl⟩
        rw [hER] at hRe hE ⊢
        subst hRe
        have hne : (ER != 0) = true := by rw [bne_iff_ne]; exact hE
        have HE : Hid (ER ≠ 0) := hE
        have hwl : w.heap.size < w3.heap.size := by omega
        obtain ⟨z0, z1, z2, z3, z4, z5, z6, z7⟩ := I8.cells (b0 := 0) (b1 := 0) (b2 := 0) (b3 := 0) (b4 := 0) (b5 := 0) (b6 := 0) (b7 := 0) (I8.zero hI3)
        obtain ⟨f0, f1, f2, f3, f4, f5, f6, f7⟩ := (I8.zero hI3).free
        have HB9 : Hid (Below w.heap.size w3 ((set8 w3 w.heap.size 0 0 0 0 0 0 0 0).alloc (.cells #[.string nn, .int .i64 nk, .int .i64 nm, .int .i64 nt, .int .i64 ns, .slice a q q', .string nl] 104))) := by
          have hb := below_set8 (Below.refl w.heap.size w3) (Nat.le_refl _) 0 0 0 0 0 0 0 0
          exact hb.alloc (Nat.le_trans (Nat.le_of_lt hwl) hb.size) _
        clear hER hz HTS1 HTS2 hE hT2 hI3 HQA
        go_wp2_with fail
        refine bodyPost_ret (v := .tuple #[.agg #[B 0, B 0, B 0, B 0, B 0, B 0, B 0, B 0], .int .i64 ER]) ?_ rfl ⟨List.replicate 8 0, rfl, rfl, HF3.out.then HB9.out hbase, fun e => absurd e HE.out⟩
        have hres : Tryz.f33.results = #[.cell 4 39, .tmp 5] := by kernel_rfl
        simp only [results, hres]
        go_simp
        rfl
    · obtain rfl : j = N := by omega
      have hdN : K.drop j = [] := by rw [HN.out]; exact List.drop_of_length_le (Nat.le_refl _)
      have htN : K.take j = K := by rw [HN.out]; exact List.take_of_length_le (Nat.le_refl _)
      have hTz : T = (pl bk, nds l, 0) := by
        rw [HTj.out, hdN]
        simp [its, Wk.things]
      have hRx : R = if (Td.write (nds l)).2 ≠ 0 then ([], [], (Td.write (nds l)).2) else Wk.into (pl bk) (2, (Td.write (nds l)).1) := by
        rw [HRR.out, hTz]
        simp
      have HQz : Hid (Pq base b m fx mn mx bt (c + 300 * (K.flatMap (blk W0 k)).length) wr rest bk) := by
        have := HQ.out
        rw [hdN, htN] at this
        exact this
      have HRx : Hid (R = if (Td.write (nds l)).2 ≠ 0 then ([], [], (Td.write (nds l)).2) else Wk.into (pl bk) (2, (Td.write (nds l)).1)) := hRx
      clear hRx hTz hdN htN HTj HQ HRR
      obtain ⟨hq1, nq, hq2, hpl⟩ := HQz.out
      obtain ⟨⟨lv, bv, p1, p2, p3, p4⟩, hmp, ha, hm⟩ := hpl
      obtain ⟨d0, d1, d2, d3, d4, d5, d6, dlt⟩ := sev_at p1
      have htw := twrite_any u6 l wr (Nds.of_oy HO.out) (by
        have h4 := HN.out
        have h2 := Hmisc.out.2.2.2.2
        have h3 : ∀ L : List Im, L.length ≤ (L.flatMap (blk W0 k)).length := fun L => by
          induction L with
          | nil => simp
          | cons y L ih => rw [List.flatMap_cons, List.length_append, List.length_cons]; have : 1 ≤ (blk W0 k y).length := by simp [blk]
                           omega
        have := h3 K
        omega) (HTb.out wr HF.out.low)
      generalize hTW : Td.write (nds l) = TW at *
      have hTWs : (⟨TW.1.toArray⟩ : ByteArray).size ≤ 9223372036854775807 := by rw [← hTW]; exact write_size l
      clear hTW
      have hbw : base ≤ wr.heap.size := Nat.le_trans hbase HF.out.size
      obtain ⟨na, nc, eu⟩ := HO.out.ry.slice
      subst eu
      rw [hlj] at htw
      cases rest with
      | nil =>
        obtain ⟨la, lc, rfl, hlc1, hlc2⟩ := p2.slice
        rw [List.length_nil] at d4
        clear p1 p2 p3 p4 hmp hq1 hq2
        go_wp2_with fail
        refine htw.mono ?_
        rintro e w4 ⟨rfl, b4⟩
        have HF4 : Hid (Pf base w w4) := HF.out.trans (Pf.of_below b4 hbw)
        have hI4 : w4.heap[w.heap.size]? = some (.cells Z8 39 (0, 0)) := (b4.block _ (Array.getElem?_eq_some_iff.1 HI.out).1).trans HI.out
        have HI4 : Hid (w4.heap[w.heap.size]? = some (.cells Z8 39 (0, 0))) := hI4
        have hwl : w.heap.size < w4.heap.size := (Array.getElem?_eq_some_iff.1 hI4).1
        by_cases hE : TW.2 = 0
        · have HQ4 := HQz.out.below b4
          have hRy : R = Wk.into (pl bk) (2, TW.1) := by rw [HRx.out, if_neg (fun q => q hE)]
          have htell := tell_q base b m (c + 300 * (K.flatMap (blk W0 k)).length) fx mn mx bt _ bk ⟨2, ⟨TW.1.toArray⟩⟩ w4 HQ4 (by have := Hmisc.out.2.2.2.2; omega) hTWs
          have hEI : errI bk ⟨2, ⟨TW.1.toArray⟩⟩ = R.2.2 := by rw [hRy]; rfl
          obtain ⟨b0, b1, b2, b3, b4', b5, b6, b7, hL⟩ := eight _ (idI_length bk ⟨2, ⟨TW.1.toArray⟩⟩)
          have HRz : Hid (R.2.2 = 0 → [b0, b1, b2, b3, b4', b5, b6, b7] = R.2.1 ∧ R.1 = pl (more bk ⟨2, ⟨TW.1.toArray⟩⟩)) := fun h0 => by
            have hE0 : errI bk ⟨2, ⟨TW.1.toArray⟩⟩ = 0 := by rw [hEI]; exact h0
            have hm := more_pl hE0
            have e1 : (⟨2, ⟨TW.1.toArray⟩⟩ : Blb).p = (2, TW.1) := rfl
            rw [e1, ← hRy] at hm
            rw [← hL]
            unfold idI
            rw [if_pos hE0, hm]
            exact ⟨rfl, rfl⟩
          rw [hL, hEI] at htell
          have htell' : Calls Tryz.prog 48 #[.pointer (some ⟨b, 0, none⟩), .agg #[.int .i64 2, .string ⟨TW.1.toArray⟩]] w4 fun e w' => e = .returned (.tuple #[.agg #[.int .u8 (b0.toNat : Int), .int .u8 (b1.toNat : Int), .int .u8 (b2.toNat : Int), .int .u8 (b3.toNat : Int), .int .u8 (b4'.toNat : Int), .int .u8 (b5.toNat : Int), .int .u8 (b6.toNat : Int), .int .u8 (b7.toNat : Int)], .int .i64 R.2.2]) ∧ Pq base b m fx mn mx bt (c + 300 * (K.flatMap (blk W0 k)).length + 1) w' _ (more bk ⟨2, ⟨TW.1.toArray⟩⟩) ∧ Pf base w4 w' := htell
          generalize more bk ⟨2, ⟨TW.1.toArray⟩⟩ = MB at *
          rw [hE]
          clear htell hL hEI hRy HRx htw b4 hI4 HQ4 HQz HF HI
          go_wp2_with fail
          refine htell'.mono ?_
          rintro e w5 ⟨rfl, q5, pf5⟩
          have hI5 : w5.heap[w.heap.size]? = some (.cells Z8 39 (0, 0)) := pf5.cells HI4.out (by decide) (by decide)
          obtain ⟨z0, z1, z2, z3, z4, z5, z6, z7⟩ := I8.cells (b0 := 0) (b1 := 0) (b2 := 0) (b3 := 0) (b4 := 0) (b5 := 0) (b6 := 0) (b7 := 0) (I8.zero hI5)
          obtain ⟨f0, f1, f2, f3, f4, f5, f6, f7⟩ := (I8.zero hI5).free
          have HF5 : Hid (Pf base w w5) := HF4.out.trans pf5
          have HB9 : Hid (Below w.heap.size w5 (set8 w5 w.heap.size b0 b1 b2 b3 b4' b5 b6 b7)) := below_set8 (Below.refl _ _) (Nat.le_refl _) _ _ _ _ _ _ _ _
          have HQ9 : Hid (Pq base b m fx mn mx bt (c + 300 * (K.flatMap (blk W0 k)).length + 1) (set8 w5 w.heap.size b0 b1 b2 b3 b4' b5 b6 b7) _ MB) := q5.kt (I8.kt8 hI5 _ _ _ _ _ _ _ _) (HB9.out.mono hbase) (by decide) (by decide)
          clear htell' q5 pf5 hI5
          go_wp2_with fail
          refine bodyPost_ret (v := .tuple #[.agg #[B b0, B b1, B b2, B b3, B b4', B b5, B b6, B b7], .int .i64 R.2.2]) ?_ rfl ⟨[b0, b1, b2, b3, b4', b5, b6, b7], rfl, rfl, HF5.out.then HB9.out hbase, fun h0 => ⟨(HRz.out h0).1, MB, (HRz.out h0).2.symm, HQ9.out⟩⟩
          have hres : Tryz.f33.results = #[.cell 4 39, .tmp 5] := by kernel_rfl
          simp only [results, hres]
          go_simp
          exact ⟨rfl, rfl, rfl, rfl, rfl, rfl, rfl, rfl⟩
        · have hRe : R = ([], [], TW.2) := by rw [HRx.out, if_pos hE]
          clear HRx
          obtain ⟨ER, hER⟩ : ∃ ER, TW.2 = ER := ⟨_, rfl⟩
          rw [hER] at hRe hE ⊢
          subst hRe
          have hne : (ER != 0) = true := by rw [bne_iff_ne]; exact hE
          have HE : Hid (ER ≠ 0) := hE
          obtain ⟨z0, z1, z2, z3, z4, z5, z6, z7⟩ := I8.cells (b0 := 0) (b1 := 0) (b2 := 0) (b3 := 0) (b4 := 0) (b5 := 0) (b6 := 0) (b7 := 0) (I8.zero hI4)
          obtain ⟨f0, f1, f2, f3, f4, f5, f6, f7⟩ := (I8.zero hI4).free
          have HB9 : Hid (Below w.heap.size w4 (set8 w4 w.heap.size 0 0 0 0 0 0 0 0)) := below_set8 (Below.refl _ _) (Nat.le_refl _) _ _ _ _ _ _ _ _
          clear hER hE htw b4 hI4 HQz
          go_wp2_with fail
          refine bodyPost_ret (v := .tuple #[.agg #[B 0, B 0, B 0, B 0, B 0, B 0, B 0, B 0], .int .i64 ER]) ?_ rfl ⟨List.replicate 8 0, rfl, rfl, HF4.out.then HB9.out hbase, fun e => absurd e HE.out⟩
          have hres : Tryz.f33.results = #[.cell 4 39, .tmp 5] := by kernel_rfl
          simp only [results, hres]
          go_simp
          rfl
      | cons y rest =>
        have hyW : y ∈ W0 := Hmisc.out.2.2.1 y List.mem_cons_self
        have hok1 := HG.out.ok1 hyW
        have hyo := HG.out.ok y hyW
        have hpc := fun W => parent_any y.path (Wk.par y.it) (Wk.nam y.it) W (path_parts hok1) (Wk.nam_slash hok1) (path_size hok1 hyo.path)
        have hneq : ¬ (mkB (Wk.par y.it)) = mkB (Nn.tails p) := fun e => by
          have e1 : Wk.par y.it = Nn.tails p := by
            have := congrArg (fun z : ByteArray => z.data.toList) e
            simpa [mkB] using this
          have e2 : y.it.nms.dropLast = p := tails_inj (fun s hs => nms_noslash hok1 s (List.dropLast_subset _ hs)) Hmisc.out.2.1 e1
          have e3 := Wk.nms_snoc hok1
          rw [e2] at e3
          exact Hmisc.out.2.2.2.1 y rfl ⟨_, by simp, e3⟩
        have heq := text_ne hneq
        have hpc' : ∀ W, Calls Tryz.prog 39 #[.string y.path] W fun e w' => e = .returned (.string (mkB (Wk.par y.it))) ∧ w' = W := hpc
        obtain ⟨la, lc, rfl, hlc1, hlc2⟩ := p2.slice
        obtain ⟨kb, ko, rfl, hkb, x0, x1, x2, x3, x4⟩ := p2.item 0 y rfl
        rw [Nat.zero_mul, Nat.add_zero] at x0 x1 x2 x3 x4
        rw [List.length_cons] at d4 hlc1
        generalize mkB (Nn.tails p) = PS at *
        generalize mkB (Wk.par y.it) = PY at *
        generalize hrl : rest.length = LN at *
        clear p1 p2 p3 p4 hmp hq1 hq2 hpc hneq hok1 hyo hyW hrl
        go_wp2_with fail
        refine (hpc' _).mono ?_
        rintro e u ⟨rfl, hu⟩
        obtain rfl := hu.symm
        clear hpc' hu x0 x1 x2 x3 x4
        go_wp2_with fail
        refine htw.mono ?_
        rintro e w4 ⟨rfl, b4⟩
        have HF4 : Hid (Pf base w w4) := HF.out.trans (Pf.of_below b4 hbw)
        have hI4 : w4.heap[w.heap.size]? = some (.cells Z8 39 (0, 0)) := (b4.block _ (Array.getElem?_eq_some_iff.1 HI.out).1).trans HI.out
        have HI4 : Hid (w4.heap[w.heap.size]? = some (.cells Z8 39 (0, 0))) := hI4
        have hwl : w.heap.size < w4.heap.size := (Array.getElem?_eq_some_iff.1 hI4).1
        by_cases hE : TW.2 = 0
        · have HQ4 := HQz.out.below b4
          have hRy : R = Wk.into (pl bk) (2, TW.1) := by rw [HRx.out, if_neg (fun q => q hE)]
          have htell := tell_q base b m (c + 300 * (K.flatMap (blk W0 k)).length) fx mn mx bt _ bk ⟨2, ⟨TW.1.toArray⟩⟩ w4 HQ4 (by have := Hmisc.out.2.2.2.2; omega) hTWs
          have hEI : errI bk ⟨2, ⟨TW.1.toArray⟩⟩ = R.2.2 := by rw [hRy]; rfl
          obtain ⟨b0, b1, b2, b3, b4', b5, b6, b7, hL⟩ := eight _ (idI_length bk ⟨2, ⟨TW.1.toArray⟩⟩)
          have HRz : Hid (R.2.2 = 0 → [b0, b1, b2, b3, b4', b5, b6, b7] = R.2.1 ∧ R.1 = pl (more bk ⟨2, ⟨TW.1.toArray⟩⟩)) := fun h0 => by
            have hE0 : errI bk ⟨2, ⟨TW.1.toArray⟩⟩ = 0 := by rw [hEI]; exact h0
            have hm := more_pl hE0
            have e1 : (⟨2, ⟨TW.1.toArray⟩⟩ : Blb).p = (2, TW.1) := rfl
            rw [e1, ← hRy] at hm
            rw [← hL]
            unfold idI
            rw [if_pos hE0, hm]
            exact ⟨rfl, rfl⟩
          rw [hL, hEI] at htell
          have htell' : Calls Tryz.prog 48 #[.pointer (some ⟨b, 0, none⟩), .agg #[.int .i64 2, .string ⟨TW.1.toArray⟩]] w4 fun e w' => e = .returned (.tuple #[.agg #[.int .u8 (b0.toNat : Int), .int .u8 (b1.toNat : Int), .int .u8 (b2.toNat : Int), .int .u8 (b3.toNat : Int), .int .u8 (b4'.toNat : Int), .int .u8 (b5.toNat : Int), .int .u8 (b6.toNat : Int), .int .u8 (b7.toNat : Int)], .int .i64 R.2.2]) ∧ Pq base b m fx mn mx bt (c + 300 * (K.flatMap (blk W0 k)).length + 1) w' _ (more bk ⟨2, ⟨TW.1.toArray⟩⟩) ∧ Pf base w4 w' := htell
          generalize more bk ⟨2, ⟨TW.1.toArray⟩⟩ = MB at *
          rw [hE]
          clear htell hL hEI hRy HRx htw b4 hI4 HQ4 HQz HF HI
          go_wp2_with fail
          refine htell'.mono ?_
          rintro e w5 ⟨rfl, q5, pf5⟩
          have hI5 : w5.heap[w.heap.size]? = some (.cells Z8 39 (0, 0)) := pf5.cells HI4.out (by decide) (by decide)
          obtain ⟨z0, z1, z2, z3, z4, z5, z6, z7⟩ := I8.cells (b0 := 0) (b1 := 0) (b2 := 0) (b3 := 0) (b4 := 0) (b5 := 0) (b6 := 0) (b7 := 0) (I8.zero hI5)
          obtain ⟨f0, f1, f2, f3, f4, f5, f6, f7⟩ := (I8.zero hI5).free
          have HF5 : Hid (Pf base w w5) := HF4.out.trans pf5
          have HB9 : Hid (Below w.heap.size w5 (set8 w5 w.heap.size b0 b1 b2 b3 b4' b5 b6 b7)) := below_set8 (Below.refl _ _) (Nat.le_refl _) _ _ _ _ _ _ _ _
          have HQ9 : Hid (Pq base b m fx mn mx bt (c + 300 * (K.flatMap (blk W0 k)).length + 1) (set8 w5 w.heap.size b0 b1 b2 b3 b4' b5 b6 b7) _ MB) := q5.kt (I8.kt8 hI5 _ _ _ _ _ _ _ _) (HB9.out.mono hbase) (by decide) (by decide)
          clear htell' q5 pf5 hI5
          go_wp2_with fail
          refine bodyPost_ret (v := .tuple #[.agg #[B b0, B b1, B b2, B b3, B b4', B b5, B b6, B b7], .int .i64 R.2.2]) ?_ rfl ⟨[b0, b1, b2, b3, b4', b5, b6, b7], rfl, rfl, HF5.out.then HB9.out hbase, fun h0 => ⟨(HRz.out h0).1, MB, (HRz.out h0).2.symm, HQ9.out⟩⟩
          have hres : Tryz.f33.results = #[.cell 4 39, .tmp 5] := by kernel_rfl
          simp only [results, hres]
          go_simp
          exact ⟨rfl, rfl, rfl, rfl, rfl, rfl, rfl, rfl⟩
        · have hRe : R = ([], [], TW.2) := by rw [HRx.out, if_pos hE]
          clear HRx
          obtain ⟨ER, hER⟩ : ∃ ER, TW.2 = ER := ⟨_, rfl⟩
          rw [hER] at hRe hE ⊢
          subst hRe
          have hne : (ER != 0) = true := by rw [bne_iff_ne]; exact hE
          have HE : Hid (ER ≠ 0) := hE
          obtain ⟨z0, z1, z2, z3, z4, z5, z6, z7⟩ := I8.cells (b0 := 0) (b1 := 0) (b2 := 0) (b3 := 0) (b4 := 0) (b5 := 0) (b6 := 0) (b7 := 0) (I8.zero hI4)
          obtain ⟨f0, f1, f2, f3, f4, f5, f6, f7⟩ := (I8.zero hI4).free
          have HB9 : Hid (Below w.heap.size w4 (set8 w4 w.heap.size 0 0 0 0 0 0 0 0)) := below_set8 (Below.refl _ _) (Nat.le_refl _) _ _ _ _ _ _ _ _
          clear hER hE htw b4 hI4 HQz
          go_wp2_with fail
          refine bodyPost_ret (v := .tuple #[.agg #[B 0, B 0, B 0, B 0, B 0, B 0, B 0, B 0], .int .i64 ER]) ?_ rfl ⟨List.replicate 8 0, rfl, rfl, HF4.out.then HB9.out hbase, fun e => absurd e HE.out⟩
          have hres : Tryz.f33.results = #[.cell 4 39, .tmp 5] := by kernel_rfl
          simp only [results, hres]
          go_simp
          rfl
end Go.Proofs.YthpcbbkpjggjbaaGreatDoor
namespace Go.Proofs.YthpcbbkpjggjbaaGreatDoor
open Go.RowKit
set_option maxRecDepth 4000
open Nn (Name)
theorem dir_all {base b m : Nat} {fx mn mx bt : Int} {W0 : List Im} (hg : Gd fx mn mx bt W0) : ∀ k, 1 ≤ k → DirOk base b m fx mn mx bt W0 k
  | 0, h => by omega
  | k + 1, _ => dir_step hg k fun h => dir_all hg k h
def plantP (fx mn mx bt : Int) (l : List Wk.It) : List Pk.Bl × Wk.Bs × Int :=
  if wayN fx mn mx bt ≠ 0 then ([], [], wayN fx mn mx bt) else if Wk.world l ≠ 0 then ([], [], Wk.world l) else Wk.plantDir (cutF fx mn mx bt) l 9 [] []
theorem dI_all {l : List Im} (h : Wk.world (its l) = 0) : dI l 9 [] = l := by
  obtain ⟨_, hr⟩ := Wk.world_ok h
  have hs : Wk.Sorted (fun x : Im => x.it.nms) l := by
    have := hr.sorted
    unfold Wk.Sorted its at this
    rw [List.pairwise_map] at this
    exact this
  have hc : Wk.Closed (fun x : Im => x.it.nms) (fun x => x.it.dir) l := fun x hx => by
    obtain ⟨c1, c2⟩ := hr.closed _ (List.mem_map_of_mem (f := Im.it) hx)
    refine ⟨c1, c2.imp id fun ⟨y, hy, e1, e2⟩ => ?_⟩
    obtain ⟨z, hz, rfl⟩ := List.mem_map.1 hy
    exact ⟨z, hz, e1, e2⟩
  refine Wk.dfs_all hs hc 9 fun x hx => ?_
  have := Wk.names_few (Wk.iErr_ok (hr.each _ (List.mem_map_of_mem (f := Im.it) hx)))
  omega
def PlOut (fx mn mx bt : Int) (l : List Im) (w : World) (e : Ending) (w' : World) : Prop :=
  ∃ v id, e = .returned (.tuple #[v, idV id, .int .i64 (plantP fx mn mx bt (its l)).2.2]) ∧ id.length = 8 ∧ Below w.heap.size w w' ∧ ((plantP fx mn mx bt (its l)).2.2 ≠ 0 → v = .slice none 0 0 ∧ id = List.replicate 8 0) ∧
    ((plantP fx mn mx bt (its l)).2.2 = 0 → ∃ bs, pl bs = (plantP fx mn mx bt (its l)).1 ∧ id = (plantP fx mn mx bt (its l)).2.1 ∧ w'.ownsRow w.heap.size 111 2 v bs.length (rowR blC bs) ∧ bs.length ≤ 1000000)
set_option maxHeartbeats 4000000 in
set_option maxRecDepth 10000 in
theorem plant_any (fx mn mx bt : Int) (v : Value) (l : List Im) (w : World) (h : Ims w v l) (hl : l.length ≤ 140737488351232) (hok : ∀ x ∈ l, x.Ok) (hT : Tabs w) :
    Calls Tryz.prog 10 #[wayV fx mn mx bt, v] w (PlOut fx mn mx bt l w) := by
  unfold PlOut
  obtain ⟨P, hP⟩ : ∃ P, P = plantP fx mn mx bt (its l) := ⟨_, rfl⟩
  rw [← hP]
  have HP : Hid (P = if wayN fx mn mx bt ≠ 0 then ([], [], wayN fx mn mx bt) else if Wk.world (its l) ≠ 0 then ([], [], Wk.world (its l)) else Wk.plantDir (cutF fx mn mx bt) (its l) 9 [] []) := hP
  obtain ⟨a, c, rfl, hlc1, hlc2⟩ := h.slice
  obtain ⟨W2, hW2⟩ : ∃ W2, W2 = (w.alloc (.cells #[.int .i64 fx, .int .i64 mn, .int .i64 mx, .int .i64 bt] 45)).alloc (.cells #[.int .u8 0, .int .u8 0, .int .u8 0, .int .u8 0, .int .u8 0, .int .u8 0, .int .u8 0, .int .u8 0] 39) := ⟨_, rfl⟩
  obtain ⟨t1, t2, t3, t4⟩ := two_new w (.cells #[.int .i64 fx, .int .i64 mn, .int .i64 mx, .int .i64 bt] 45) (.cells #[.int .u8 0, .int .u8 0, .int .u8 0, .int .u8 0, .int .u8 0, .int .u8 0, .int .u8 0, .int .u8 0] 39)
  rw [← hW2] at t1 t2 t3 t4
  have HB2 : Hid (Below w.heap.size w W2) := t4
  have HS2 : Hid (W2.heap.size = w.heap.size + 2) := t3
  have HI2 : Hid (W2.heap[w.heap.size + 1]? = some (.cells Z8 39 (0, 0))) := t2
  have HY2 : Hid (W2.heap[w.heap.size]? = some (.cells #[.int .i64 fx, .int .i64 mn, .int .i64 mx, .int .i64 bt] 45 (0, 0))) := t1
  have HX : Hid (Ims w (.slice a l.length c) l) := h
  have HVb : Hid (∀ a' n c', Value.slice a l.length c = .slice (some a') n c' → l ≠ [] → a'.block < w.heap.size) := fun a' n c' e hl0 => by
    rcases h.at_ with ⟨_, e2⟩ | ⟨bk, o, cap, e2, h3, _⟩
    · exact absurd e2 hl0
    · rw [e2] at e; cases e; exact h3
  have HK : Hid (∀ x ∈ l, x.Ok) := hok
  have HT : Hid (Tabs w) := hT
  have hway := wayok_any fx mn mx bt W2
  have hchk := fun W (hW : Below w.heap.size w W) => wcheck_any _ l W (HX.out.below hW) hl HK.out (HT.out.below hW)
  obtain ⟨c0, c1, c2, c3⟩ : W2.cell? ⟨w.heap.size, 0, none⟩ = some (.int .i64 fx) ∧ W2.cell? ⟨w.heap.size, 1, none⟩ = some (.int .i64 mn) ∧ W2.cell? ⟨w.heap.size, 2, none⟩ = some (.int .i64 mx) ∧ W2.cell? ⟨w.heap.size, 3, none⟩ = some (.int .i64 bt) := by
    refine ⟨?_, ?_, ?_, ?_⟩ <;> simp [World.cell?, t1]
  obtain ⟨LN, hLN⟩ : ∃ LN, LN = l.length := ⟨_, rfl⟩
  have HLN : Hid (LN = l.length) := hLN
  rw [← hLN] at HX hchk HVb ⊢
  clear hP h hok hT t1 t2 t3 t4 hLN hlc1 hlc2 hl
  go_enter Tryz.func10, Tryz.ntmps10
  go_upto_region 1 with fail
  rw [← hW2]
  clear hW2
  go_wp2_with fail
  refine hway.mono ?_
  rintro e w3 ⟨rfl, b3⟩
  have HB3 : Hid (Below w.heap.size w w3) := HB2.out.trans (b3.mono HB2.out.size)
  have hI3 : w3.heap[w.heap.size + 1]? = some (.cells Z8 39 (0, 0)) := (b3.block _ (Array.getElem?_eq_some_iff.1 HI2.out).1).trans HI2.out
  have HI3 : Hid (w3.heap[w.heap.size + 1]? = some (.cells Z8 39 (0, 0))) := hI3
  have HY3 : Hid (w3.heap[w.heap.size]? = some (.cells #[.int .i64 fx, .int .i64 mn, .int .i64 mx, .int .i64 bt] 45 (0, 0))) := (b3.block _ (Array.getElem?_eq_some_iff.1 HY2.out).1).trans HY2.out
  clear hway b3 c0 c1 c2 c3
  by_cases hE : wayN fx mn mx bt = 0
  case neg =>
    have hRe : P = ([], [], wayN fx mn mx bt) := by rw [HP.out, if_pos hE]
    obtain ⟨ER, hER⟩ : ∃ ER, wayN fx mn mx bt = ER := ⟨_, rfl⟩
    rw [hER] at hRe hE ⊢
    clear HP
    subst hRe
    have hne : (ER != 0) = true := by rw [bne_iff_ne]; exact hE
    have HE : Hid (ER ≠ 0) := hE
    obtain ⟨z0, z1, z2, z3, z4, z5, z6, z7⟩ := I8.cells (b0 := 0) (b1 := 0) (b2 := 0) (b3 := 0) (b4 := 0) (b5 := 0) (b6 := 0) (b7 := 0) (I8.zero hI3)
    obtain ⟨f0, f1, f2, f3, f4, f5, f6, f7⟩ := (I8.zero hI3).free
    have HB9 : Hid (Below w.heap.size w (set8 w3 (w.heap.size + 1) 0 0 0 0 0 0 0 0)) := below_set8 HB3.out (by omega) _ _ _ _ _ _ _ _
    clear hER hE hchk hI3
    go_wp2_with fail
    refine bodyPost_ret (v := .tuple #[.slice none 0 0, .agg #[B 0, B 0, B 0, B 0, B 0, B 0, B 0, B 0], .int .i64 ER]) ?_ rfl ⟨_, List.replicate 8 0, rfl, rfl, HB9.out, fun _ => ⟨rfl, rfl⟩, fun e => absurd e HE.out⟩
    have hres : Tryz.f10.results = #[.tmp 4, .cell 5 39, .tmp 6] := by kernel_rfl
    simp only [results, hres]
    go_simp
    rfl
  have HWy : Hid (wayN fx mn mx bt = 0) := hE
  have HP2 : Hid (P = if Wk.world (its l) ≠ 0 then ([], [], Wk.world (its l)) else Wk.plantDir (cutF fx mn mx bt) (its l) 9 [] []) := by show _ = _; rw [HP.out, if_neg (fun q => q hE)]
  rw [hE]
  clear HP hE hI3
  go_wp2_with fail
  refine (hchk w3 HB3.out).mono ?_
  rintro e w4 ⟨rfl, b4⟩
  have HB4 : Hid (Below w.heap.size w w4) := HB3.out.trans (b4.mono HB3.out.size)
  have hI4 : w4.heap[w.heap.size + 1]? = some (.cells Z8 39 (0, 0)) := (b4.block _ (Array.getElem?_eq_some_iff.1 HI3.out).1).trans HI3.out
  have HI4 : Hid (w4.heap[w.heap.size + 1]? = some (.cells Z8 39 (0, 0))) := hI4
  have hY4 : w4.heap[w.heap.size]? = some (.cells #[.int .i64 fx, .int .i64 mn, .int .i64 mx, .int .i64 bt] 45 (0, 0)) := (b4.block _ (Array.getElem?_eq_some_iff.1 HY3.out).1).trans HY3.out
  clear hchk b4
  by_cases hE : Wk.world (its l) = 0
  case neg =>
    have hRe : P = ([], [], Wk.world (its l)) := by rw [HP2.out, if_pos hE]
    obtain ⟨ER, hER⟩ : ∃ ER, Wk.world (its l) = ER := ⟨_, rfl⟩
    rw [hER] at hRe hE ⊢
    clear HP2
    subst hRe
    have hne : (ER != 0) = true := by rw [bne_iff_ne]; exact hE
    have HE : Hid (ER ≠ 0) := hE
    obtain ⟨z0, z1, z2, z3, z4, z5, z6, z7⟩ := I8.cells (b0 := 0) (b1 := 0) (b2 := 0) (b3 := 0) (b4 := 0) (b5 := 0) (b6 := 0) (b7 := 0) (I8.zero hI4)
    obtain ⟨f0, f1, f2, f3, f4, f5, f6, f7⟩ := (I8.zero hI4).free
    have HB9 : Hid (Below w.heap.size w (set8 w4 (w.heap.size + 1) 0 0 0 0 0 0 0 0)) := below_set8 HB4.out (by omega) _ _ _ _ _ _ _ _
    clear hER hE hI4
    go_wp2_with fail
    refine bodyPost_ret (v := .tuple #[.slice none 0 0, .agg #[B 0, B 0, B 0, B 0, B 0, B 0, B 0, B 0], .int .i64 ER]) ?_ rfl ⟨_, List.replicate 8 0, rfl, rfl, HB9.out, fun _ => ⟨rfl, rfl⟩, fun e => absurd e HE.out⟩
    have hres : Tryz.f10.results = #[.tmp 4, .cell 5 39, .tmp 6] := by kernel_rfl
    simp only [results, hres]
    go_simp
    rfl
  have HP3 : Hid (P = Wk.plantDir (cutF fx mn mx bt) (its l) 9 [] []) := by show _ = _; rw [HP2.out, if_neg (fun q => q hE)]
  obtain ⟨hw100, hright⟩ := Wk.world_ok hE
  rw [its_length] at hw100
  have HAll : Hid (dI l 9 [] = l) := dI_all hE
  have hgd : Gd fx mn mx bt l := ⟨hright, HK.out, HWy.out⟩
  have hmk := run_makeMap (P := Tryz.prog) 79 w4
  obtain ⟨base, hbase⟩ : ∃ base, base = w4.heap.size := ⟨_, rfl⟩
  obtain ⟨W6, hW6⟩ : ∃ W6, W6 = (w4.alloc (.map #[] 0)).alloc (.cells #[.int .i64 fx, .int .i64 mn, .int .i64 mx, .int .i64 bt, .slice a LN c, .map (some w4.heap.size), .slice none 0 0] 81) := ⟨_, rfl⟩
  obtain ⟨t1, t2, t3, t4⟩ := two_new w4 (.map #[] 0) (.cells #[.int .i64 fx, .int .i64 mn, .int .i64 mx, .int .i64 bt, .slice a LN c, .map (some w4.heap.size), .slice none 0 0] 81)
  rw [← hW6] at t1 t2 t3 t4
  have hws : w.heap.size ≤ w4.heap.size := HB4.out.size
  have hQ6 : Pq base (w4.heap.size + 1) w4.heap.size fx mn mx bt 0 W6 (dI l 9 [] ++ []) [] := by
    rw [List.append_nil, HAll.out]
    refine ⟨Nat.le_refl _, 0, Nat.le_refl _, ⟨⟨_, _, t2, (HX.out.below HB4.out).below t4, fun a' n c' e hl0 => ?_, World.ownsRow_nil _ _ _ _⟩, ?_, by omega, by omega⟩⟩
    · have := HVb.out a' n c' e hl0
      omega
    · have hm0 := Mp.new w4
      have hb : Below (w4.alloc (.map #[] 0)).heap.size (w4.alloc (.map #[] 0)) W6 := by rw [hW6]; exact (Below.refl _ _).alloc (Nat.le_refl _) _
      exact hm0.below hb
  have hdir := dir_all hgd 9 (by omega) [] [] [] 0 W6 (by simp) (fun _ q => absurd q List.not_mem_nil) (fun _ q => absurd q List.not_mem_nil) (fun _ q => by simp at q) (by rw [HAll.out]; omega) hQ6 (fun W hW => HT.out.below (HB4.out.trans ((t4.mono (Nat.le_refl _)).trans (hW.mono (by omega)) |>.mono hws))) P HP3.out
  rw [HAll.out] at hdir
  have hdir' : Calls Tryz.prog 33 #[.pointer (some ⟨w4.heap.size + 1, 0, none⟩), .string ⟨#[]⟩] W6 fun e w' => ∃ id, e = .returned (.tuple #[idV id, .int .i64 P.2.2]) ∧ id.length = 8 ∧ Pf base W6 w' ∧ (P.2.2 = 0 → id = P.2.1 ∧ ∃ bs', pl bs' = P.1 ∧ Pq base (w4.heap.size + 1) w4.heap.size fx mn mx bt (0 + 300 * l.length + 1) w' [] bs') := hdir
  have HB6 : Hid (Below w.heap.size w W6) := HB4.out.trans (t4.mono hws)
  have HI6 : Hid (W6.heap[w.heap.size + 1]? = some (.cells Z8 39 (0, 0))) := (t4.block _ (Array.getElem?_eq_some_iff.1 HI4.out).1).trans HI4.out
  have HBs : Hid (base = w4.heap.size ∧ l.length ≤ 100 ∧ w.heap.size + 2 ≤ base) := ⟨hbase, hw100, by have := (Array.getElem?_eq_some_iff.1 hI4).1; omega⟩
  obtain ⟨c0, c1, c2, c3⟩ : w4.cell? ⟨w.heap.size, 0, none⟩ = some (.int .i64 fx) ∧ w4.cell? ⟨w.heap.size, 1, none⟩ = some (.int .i64 mn) ∧ w4.cell? ⟨w.heap.size, 2, none⟩ = some (.int .i64 mx) ∧ w4.cell? ⟨w.heap.size, 3, none⟩ = some (.int .i64 bt) := by
    refine ⟨?_, ?_, ?_, ?_⟩ <;> simp [World.cell?, hY4]
  have hy4 : w.heap.size < w4.heap.size := (Array.getElem?_eq_some_iff.1 hY4).1
  rw [hE]
  clear hdir hQ6 t1 t2 t3 t4 hgd HP2 hright hw100 hE hI4 hY4 hbase
  go_upto_region 8 with fail
  rw [← hW6]
  clear hW6 c0 c1 c2 c3 hmk
  go_wp2_with fail
  refine hdir'.mono ?_
  rintro e w7 ⟨id, rfl, hid, f7, hz⟩
  obtain ⟨b0, b1, b2, b3, b4, b5, b6, b7, rfl⟩ := eight id hid
  have eV : idV [b0, b1, b2, b3, b4, b5, b6, b7] = .agg #[.int .u8 (b0.toNat : Int), .int .u8 (b1.toNat : Int), .int .u8 (b2.toNat : Int), .int .u8 (b3.toNat : Int), .int .u8 (b4.toNat : Int), .int .u8 (b5.toNat : Int), .int .u8 (b6.toNat : Int), .int .u8 (b7.toNat : Int)] := rfl
  rw [eV]
  have HZ : Hid (P.2.2 = 0 → [b0, b1, b2, b3, b4, b5, b6, b7] = P.2.1 ∧ ∃ bs', pl bs' = P.1 ∧ Pq base (w4.heap.size + 1) w4.heap.size fx mn mx bt (0 + 300 * l.length + 1) w7 [] bs') := hz
  have hI7 : w7.heap[w.heap.size + 1]? = some (.cells Z8 39 (0, 0)) := f7.cells HI6.out (by decide) (by decide)
  have HB7 : Hid (Below w.heap.size w w7) := HB6.out.trans (f7.low.mono (by have := HBs.out; omega))
  have HI7 : Hid (w7.heap[w.heap.size + 1]? = some (.cells Z8 39 (0, 0))) := hI7
  have hw7 : w.heap.size + 1 < w7.heap.size := (Array.getElem?_eq_some_iff.1 hI7).1
  clear hdir' f7 eV hid
  by_cases hE : P.2.2 = 0
  case neg =>
    obtain ⟨P1, P2, ER⟩ := P
    dsimp only at hE hz ⊢
    have hne : (ER != 0) = true := by rw [bne_iff_ne]; exact hE
    have HE : Hid (ER ≠ 0) := hE
    obtain ⟨z0, z1, z2, z3, z4, z5, z6, z7⟩ := I8.cells (b0 := 0) (b1 := 0) (b2 := 0) (b3 := 0) (b4 := 0) (b5 := 0) (b6 := 0) (b7 := 0) (I8.zero hI7)
    obtain ⟨f0, f1, f2, f3, f4, f5, f6, f7⟩ := (I8.zero hI7).free
    have HB9 : Hid (Below w.heap.size w ((set8 w7 (w.heap.size + 1) 0 0 0 0 0 0 0 0).alloc (.cells #[.int .u8 (b0.toNat : Int), .int .u8 (b1.toNat : Int), .int .u8 (b2.toNat : Int), .int .u8 (b3.toNat : Int), .int .u8 (b4.toNat : Int), .int .u8 (b5.toNat : Int), .int .u8 (b6.toNat : Int), .int .u8 (b7.toNat : Int)] 39))) := by
      have hb := below_set8 HB7.out (Nat.le_succ _) 0 0 0 0 0 0 0 0
      exact hb.alloc hb.size _
    clear hE hz hI7
    go_wp2_with fail
    refine bodyPost_ret (v := .tuple #[.slice none 0 0, .agg #[B 0, B 0, B 0, B 0, B 0, B 0, B 0, B 0], .int .i64 ER]) ?_ rfl ⟨_, List.replicate 8 0, rfl, rfl, HB9.out, fun _ => ⟨rfl, rfl⟩, fun e => absurd e HE.out⟩
    have hres : Tryz.f10.results = #[.tmp 4, .cell 5 39, .tmp 6] := by kernel_rfl
    simp only [results, hres]
    go_simp
    rfl
  obtain ⟨hid, bs', hb1, hb2⟩ := hz hE
  obtain ⟨hq1, nq, hq2, ⟨⟨lv, bv, p1, p2, p3, p4⟩, _, _, _⟩⟩ := hb2
  obtain ⟨d0, d1, d2, d3, d4, d5, d6, dlt⟩ := sev_at p1
  obtain ⟨ba, bc, ebv⟩ := own_form p4
  subst ebv
  obtain ⟨z0, z1, z2, z3, z4, z5, z6, z7⟩ := I8.cells (b0 := 0) (b1 := 0) (b2 := 0) (b3 := 0) (b4 := 0) (b5 := 0) (b6 := 0) (b7 := 0) (I8.zero hI7)
  obtain ⟨f0, f1, f2, f3, f4, f5, f6, f7⟩ := (I8.zero hI7).free
  have HB9 : Hid (Below w.heap.size w (((set8 w7 (w.heap.size + 1) b0 b1 b2 b3 b4 b5 b6 b7).alloc (.cells #[.int .u8 (b0.toNat : Int), .int .u8 (b1.toNat : Int), .int .u8 (b2.toNat : Int), .int .u8 (b3.toNat : Int), .int .u8 (b4.toNat : Int), .int .u8 (b5.toNat : Int), .int .u8 (b6.toNat : Int), .int .u8 (b7.toNat : Int)] 39)).drew)) := by
    have hb := below_set8 HB7.out (Nat.le_succ _) b0 b1 b2 b3 b4 b5 b6 b7
    exact (hb.alloc hb.size _).drew
  have HO9 : Hid ((((set8 w7 (w.heap.size + 1) b0 b1 b2 b3 b4 b5 b6 b7).alloc (.cells #[.int .u8 (b0.toNat : Int), .int .u8 (b1.toNat : Int), .int .u8 (b2.toNat : Int), .int .u8 (b3.toNat : Int), .int .u8 (b4.toNat : Int), .int .u8 (b5.toNat : Int), .int .u8 (b6.toNat : Int), .int .u8 (b7.toNat : Int)] 39)).drew).ownsRow w.heap.size 111 2 (.slice ba bs'.length bc) bs'.length (rowR blC bs')) :=
    ((own_lower (own_kt p4 (I8.kt8 hI7 b0 b1 b2 b3 b4 b5 b6 b7) (by decide)) (by have := HBs.out; omega)).alloc _).drew
  have HFin : Hid (P.2.2 = 0 ∧ pl bs' = P.1 ∧ [b0, b1, b2, b3, b4, b5, b6, b7] = P.2.1 ∧ bs'.length ≤ 1000000) := ⟨hE, hb1, hid, by have := HBs.out; omega⟩
  obtain ⟨BN, hBN⟩ : ∃ BN, BN = bs'.length := ⟨_, rfl⟩
  rw [← hBN] at d6
  rw [hE]
  clear p1 p2 p3 p4 hq1 hq2 hz hI7 hb1 hid
  go_wp2_with fail
  go_region
  all_goals
    go_wp2_with fail
    subst hBN
    refine bodyPost_ret (v := .tuple #[.slice ba bs'.length bc, .agg #[B b0, B b1, B b2, B b3, B b4, B b5, B b6, B b7], .int .i64 0]) ?_ rfl ⟨_, [b0, b1, b2, b3, b4, b5, b6, b7], by rw [HFin.out.1]; rfl, rfl, HB9.out, fun e => absurd HFin.out.1 e, fun _ => ⟨bs', HFin.out.2.1, HFin.out.2.2.1, HO9.out, HFin.out.2.2.2⟩⟩
    have hres : Tryz.f10.results = #[.tmp 4, .cell 5 39, .tmp 6] := by kernel_rfl
    simp only [results, hres]
    go_simp
    exact ⟨rfl, rfl, rfl, rfl, rfl, rfl, rfl, rfl⟩
end Go.Proofs.YthpcbbkpjggjbaaGreatDoor
namespace Go.Proofs.YthpcbbkpjggjbaaGreatDoor
namespace Wk
open Nn (Name)
open Pk (Bl)
structure Good (cutf : Bs → List Bs) (w : List It) : Prop where
  right : Right w
  time : ∀ x ∈ w, -9223372036854775808 ≤ x.time ∧ x.time ≤ 9223372036854775807
  cut : ∀ x ∈ w, x.kind = 1 → (cutf x.bytes).flatten = x.bytes
def block (w : List It) (k : Nat) (x : It) : List It := x :: (if x.dir then dfs It.nms It.dir w k x.nms else [])
theorem dfs_succ (w : List It) (k : Nat) (p : List Name) : dfs It.nms It.dir w (k + 1) p = (kids It.nms w p).flatMap (block w k) := rfl
def Back (w : List It) (k : Nat) (p : List Name) (l l1 : List Bl) (id : Bs) : Prop :=
  (∀ x ∈ l, x ∈ l1) ∧ (Fine l → Fine l1) ∧ id.length = 8 ∧ ∀ L, Fine L → (∀ x ∈ l1, x ∈ L) → ∀ acc, acc.length + (dfs It.nms It.dir w k p).length ≤ 100 → reapDir L k id p acc = (acc ++ dfs It.nms It.dir w k p, 0)
theorem getLastD_snoc (p : List Name) (s : Name) : (p ++ [s]).getLastD [] = s := by simp
theorem name_path {x : It} {p : List Name} {s : Name} (hx : iErr x = 0) (e : x.nms = p ++ [s]) : Nn.joinB (p ++ [x.nms.getLastD []]) = x.path := by
  rw [e, getLastD_snoc, ← e]
  exact (path_eq (iErr_ok hx)).symm
theorem thing_back {cutf : Bs → List Bs} {w : List It} (hg : Good cutf w) {k : Nat} (ih : ∀ p l l1 id, plantDir cutf w k p l = (l1, id, 0) → Back w k p l l1 id) {x : It} (hx : x ∈ w) {p : List Name} {s : Name} (e : x.nms = p ++ [s])
    {l l1 : List Bl} {ids : List Bs} (h : thing cutf (plantDir cutf w k) x l = (l1, ids, 0)) :
    (∀ y ∈ l, y ∈ l1) ∧ (Fine l → Fine l1) ∧ Td.Wn (node x ids) ∧ ∀ L, Fine L → (∀ y ∈ l1, y ∈ L) → ∀ acc, acc.length + (block w k x).length ≤ 100 →
      ∃ bytes, (if (node x ids).kind = 1 then reapFile L (node x ids).size (node x ids).parts [] else ((node x ids).link, 0)) = (bytes, 0) ∧ item p (node x ids) bytes = x ∧
        (if (node x ids).kind = 2 then reapDir L k ((node x ids).parts.headD []) (p ++ [(node x ids).name]) (acc ++ [x]) else (acc ++ [x], 0)) = (acc ++ block w k x, 0) := by
  have hxo := hg.right.each x hx
  have ho := iErr_ok hxo
  have ht := hg.time x hx
  have hitem : ∀ bytes, bytes = x.bytes → item p (node x ids) bytes = x := fun bytes hb => by
    subst hb
    show (⟨Nn.joinB (p ++ [x.nms.getLastD []]), x.kind, x.mode, x.time, x.bytes⟩ : It) = x
    rw [name_path hxo e]
  unfold thing at h
  by_cases k1 : x.kind = 1
  · rw [if_pos k1] at h
    obtain ⟨h1, h2, h3, h4⟩ := pieces_ok _ _ _ _ h
    refine ⟨h3, h4, ⟨ht.1, ht.2, fun q hq => ?_⟩, fun L hF hL acc _ => ⟨x.bytes, ?_, hitem _ rfl, ?_⟩⟩
    · have hq : q ∈ ids := hq
      rw [h1] at hq
      obtain ⟨y, _, rfl⟩ := List.mem_map.1 hq
      exact Pk.bid_length _
    · rw [if_pos (show (node x ids).kind = 1 from k1)]
      show reapFile L (if x.kind = 1 then (x.bytes.length : Int) else 0) ids [] = _
      rw [if_pos k1, h1]
      have := reapFile_ok hF (cutf x.bytes) [] x.bytes.length (fun q hq => hL _ (h2 q hq)) (by rw [List.nil_append, hg.cut x hx k1])
      rw [List.nil_append, hg.cut x hx k1] at this
      exact this
    · rw [if_neg (show ¬ (node x ids).kind = 2 from by show ¬ x.kind = 2; omega)]
      unfold block
      rw [if_neg (by unfold It.dir; simp; omega)]
  · rw [if_neg k1] at h
    by_cases k2 : x.kind = 2
    · rw [if_pos k2] at h
      rcases hp : plantDir cutf w k x.nms l with ⟨l2, id, e2⟩
      rw [hp] at h
      obtain rfl : l2 = l1 := congrArg (fun z => z.1) h
      obtain rfl : [id] = ids := congrArg (fun z => z.2.1) h
      obtain rfl : e2 = 0 := congrArg (fun z => z.2.2) h
      obtain ⟨b1, b2, b3, b4⟩ := ih _ _ _ _ hp
      have hdir : x.dir = true := by unfold It.dir; simp [k2]
      refine ⟨b1, b2, ⟨ht.1, ht.2, fun q hq => by rw [List.mem_singleton.1 (show q ∈ [id] from hq)]; exact b3⟩, fun L hF hL acc hacc => ⟨x.bytes, ?_, hitem _ rfl, ?_⟩⟩
      · rw [if_neg (show ¬ (node x [id]).kind = 1 from k1)]
        show ((if x.kind = 3 then x.bytes else []), (0 : Int)) = _
        rw [if_neg (by omega), ho.nodir k2]
      · rw [if_pos (show (node x [id]).kind = 2 from k2)]
        have hn : p ++ [(node x [id]).name] = x.nms := by
          show p ++ [x.nms.getLastD []] = x.nms
          rw [e, getLastD_snoc]
        rw [hn]
        show reapDir L k id x.nms (acc ++ [x]) = _
        unfold block at hacc ⊢
        rw [if_pos hdir] at hacc ⊢
        rw [b4 L hF hL (acc ++ [x]) (by rw [List.length_cons] at hacc; rw [List.length_append, List.length_singleton]; omega), List.append_assoc]
        rfl
    · rw [if_neg k2] at h
      obtain rfl : l = l1 := congrArg (fun z => z.1) h
      obtain rfl : [] = ids := congrArg (fun z => z.2.1) h
      have k3 : x.kind = 3 := by have := ho.kind; omega
      refine ⟨fun _ q => q, fun q => q, ⟨ht.1, ht.2, fun q hq => absurd (show q ∈ ([] : List Bs) from hq) List.not_mem_nil⟩, fun L hF hL acc _ => ⟨x.bytes, ?_, hitem _ rfl, ?_⟩⟩
      · rw [if_neg (show ¬ (node x []).kind = 1 from k1)]
        show ((if x.kind = 3 then x.bytes else []), (0 : Int)) = _
        rw [if_pos k3]
      · rw [if_neg (show ¬ (node x []).kind = 2 from k2)]
        unfold block
        rw [if_neg (by unfold It.dir; simp; omega)]
theorem things_back {cutf : Bs → List Bs} {w : List It} (hg : Good cutf w) {k : Nat} (ih : ∀ p l l1 id, plantDir cutf w k p l = (l1, id, 0) → Back w k p l l1 id) (p : List Name) : ∀ (xs : List It) (l l1 : List Bl) (nodes : List Td.Nd), (∀ x ∈ xs, x ∈ w ∧ ∃ s, x.nms = p ++ [s]) →
    things cutf (plantDir cutf w k) xs l = (l1, nodes, 0) →
    (∀ y ∈ l, y ∈ l1) ∧ (Fine l → Fine l1) ∧ (∀ n ∈ nodes, Td.Wn n) ∧ ∀ L, Fine L → (∀ y ∈ l1, y ∈ L) → ∀ acc, acc.length + (xs.flatMap (block w k)).length ≤ 100 → reapNodes L (reapDir L k) p nodes acc = (acc ++ xs.flatMap (block w k), 0)
  | [], l, l1, nodes, _, h => by
    cases h
    exact ⟨fun _ q => q, fun q => q, fun n hn => absurd hn List.not_mem_nil, fun L _ _ acc _ => by rw [reapNodes, List.flatMap_nil, List.append_nil]⟩
  | x :: xs, l, l1, nodes, hxs, h => by
    rw [things] at h
    rcases ht : thing cutf (plantDir cutf w k) x l with ⟨l2, ids, e1⟩
    rw [ht] at h
    simp only at h
    split at h
    · rename_i q; exact absurd (congrArg (fun z => z.2.2) h) q
    rename_i q
    obtain rfl := Decidable.not_not.mp q
    rcases hr : things cutf (plantDir cutf w k) xs l2 with ⟨l3, ns, e2⟩
    rw [hr] at h
    obtain rfl : l3 = l1 := congrArg (fun z => z.1) h
    obtain rfl : node x ids :: ns = nodes := congrArg (fun z => z.2.1) h
    obtain rfl : e2 = 0 := congrArg (fun z => z.2.2) h
    obtain ⟨hxw, s, es⟩ := hxs x List.mem_cons_self
    obtain ⟨a1, a2, a3, a4⟩ := thing_back hg ih hxw es ht
    obtain ⟨c1, c2, c3, c4⟩ := things_back hg ih p xs l2 l3 ns (fun y hy => hxs y (List.mem_cons_of_mem _ hy)) hr
    refine ⟨fun y hy => c1 y (a1 y hy), fun q => c2 (a2 q), fun n hn => ?_, fun L hF hL acc hacc => ?_⟩
    · rcases List.mem_cons.1 hn with e | hn
      · rw [e]; exact a3
      · exact c3 n hn
    · have hb : 1 ≤ (block w k x).length := by unfold block; rw [List.length_cons]; omega
      rw [List.flatMap_cons, List.length_append] at hacc
      obtain ⟨bytes, f1, f2, f3⟩ := a4 L hF (fun y hy => hL y (c1 y hy)) acc (by omega)
      have h8 : ¬ 8 ≤ p.length := by
        have := errsF_few _ 0 (errs_nms (iErr_ok (hg.right.each x hxw))) (by omega)
        rw [es, List.length_append, List.length_singleton] at this
        omega
      have h100 : ¬ 100 ≤ acc.length := by omega
      rw [reapNodes, if_neg h8, if_neg h100, f1]
      simp only [ne_eq, not_true, if_false, f2]
      rw [f3]
      simp only [not_true, if_false]
      rw [c4 L hF hL (acc ++ block w k x) (by rw [List.length_append]; omega), List.flatMap_cons, List.append_assoc]
theorem plant_back {cutf : Bs → List Bs} {w : List It} (hg : Good cutf w) : ∀ (k : Nat) (p : List Name) (l l1 : List Bl) (id : Bs), plantDir cutf w k p l = (l1, id, 0) → Back w k p l l1 id
  | 0, p, l, l1, id, h => by
    rw [plantDir] at h
    exact absurd (congrArg (fun z => z.2.2) h) (by simp)
  | k + 1, p, l, l1, id, h => by
    rw [plantDir] at h
    rcases ht : things cutf (plantDir cutf w k) (kids It.nms w p) l with ⟨l2, nodes, e1⟩
    rw [ht] at h
    simp only at h
    split at h
    · rename_i q; exact absurd (congrArg (fun z => z.2.2) h) q
    rename_i q
    obtain rfl := Decidable.not_not.mp q
    rcases hs : Td.write nodes with ⟨s, e2⟩
    rw [hs] at h
    simp only at h
    split at h
    · rename_i q; exact absurd (congrArg (fun z => z.2.2) h) q
    rename_i q
    obtain rfl := Decidable.not_not.mp q
    obtain ⟨_, rfl, i3, i4, i5, _⟩ := into_ok h
    obtain ⟨c1, c2, c3, c4⟩ := things_back hg (plant_back hg k) p (kids It.nms w p) l l2 nodes (fun x hx => mem_kids.1 hx) ht
    refine ⟨fun x hx => i4 x (c1 x hx), fun q => i5 (c2 q), Pk.bid_length _, fun L hF hL acc hacc => ?_⟩
    rw [dfs_succ] at hacc ⊢
    have hbl : blobOf L (Pk.bid ((2, s) : Bl)) 2 = (s, 0) := blobOf_in hF (hL _ i3)
    rw [reapDir, hbl]
    simp only [ne_eq, not_true, if_false]
    rw [Td.read_write c3 hs]
    simp only [not_true, if_false]
    exact c4 L hF (fun y hy => hL y (i4 y hy)) acc hacc
theorem world_back {cutf : Bs → List Bs} {w : List It} (hw : world w = 0) (ht : ∀ x ∈ w, -9223372036854775808 ≤ x.time ∧ x.time ≤ 9223372036854775807) (hc : ∀ x ∈ w, x.kind = 1 → (cutf x.bytes).flatten = x.bytes)
    {l : List Bl} {id : Bs} (h : plantDir cutf w 9 [] [] = (l, id, 0)) : Fine l ∧ ∀ L, Fine L → (∀ x ∈ l, x ∈ L) → reapDir L 9 id [] [] = (w, 0) := by
  obtain ⟨hl, hr⟩ := world_ok hw
  obtain ⟨_, b2, _, b4⟩ := plant_back ⟨hr, ht, hc⟩ 9 [] [] l id h
  have hd : dfs It.nms It.dir w 9 [] = w := dfs_all hr.sorted hr.closed 9 fun x hx => by
    have := errsF_few _ 0 (errs_nms (iErr_ok (hr.each x hx))) (by omega)
    omega
  refine ⟨b2 ⟨fun _ q => absurd q List.not_mem_nil, fun _ q => absurd q List.not_mem_nil⟩, fun L hF hL => ?_⟩
  have := b4 L hF hL [] (by rw [hd, List.length_nil]; omega)
  rwa [hd, List.nil_append] at this
end Wk
end Go.Proofs.YthpcbbkpjggjbaaGreatDoor
namespace Go.Proofs.YthpcbbkpjggjbaaGreatDoor
namespace Wk
def small : List It := [⟨[47, 100], 2, 0, 0, []⟩, ⟨[47, 100, 47, 102], 1, 0, 0, [48, 49, 50, 51, 52, 53, 54, 55, 56, 57, 97, 98, 99, 100, 101, 102, 48, 49, 50, 51, 52, 53, 54, 55, 56, 57, 97, 98, 99, 100, 101, 102, 33]⟩]
end Wk
end Go.Proofs.YthpcbbkpjggjbaaGreatDoor
namespace Go.Proofs.YthpcbbkpjggjbaaGreatDoor
open Go.RowKit
set_option maxRecDepth 4000
namespace Wk
def gath : List Pk.Bl → List Pk.Bl → List Pk.Bl × Int
  | [], l => (l, 0)
  | b :: r, l => if (into l b).2.2 ≠ 0 then ([], (into l b).2.2) else gath r (into l b).1
def heapP (l : List Pk.Bl) : List Pk.Bl × Int := if 1000 < l.length then ([], 2) else gath l []
end Wk
theorem pl_length (l : List Blb) : (pl l).length = l.length := List.length_map _
theorem gath_step {l : List Blb} {j : Nat} {x : Blb} (hx : l[j]? = some x) {bk : List Blb} {R : List Pk.Bl × Int} (h : R = Wk.gath (pl (l.drop j)) (pl bk)) :
    (errI bk x ≠ 0 → R = ([], errI bk x)) ∧ (errI bk x = 0 → R = Wk.gath (pl (l.drop (j + 1))) (pl (more bk x))) := by
  have hlt := (List.getElem?_eq_some_iff.1 hx).1
  have e0 : pl (l.drop j) = x.p :: pl (l.drop (j + 1)) := by
    rw [List.drop_eq_getElem_cons hlt, (List.getElem?_eq_some_iff.1 hx).2]; rfl
  rw [e0, Wk.gath] at h
  constructor
  · intro hE
    rw [h, if_pos (show (Wk.into (pl bk) x.p).2.2 ≠ 0 from hE)]; rfl
  · intro hE
    rw [h, if_neg (show ¬ (Wk.into (pl bk) x.p).2.2 ≠ 0 from fun q => q hE), more_pl hE]
set_option maxHeartbeats 4000000 in
set_option maxRecDepth 10000 in
theorem heapOf_any (v : Value) (l : List Blb) (w : World) (h : Bx w v l) (hok : BOk l) (hl : l.length ≤ 140737488351232) (R : List Pk.Bl × Int) (hR : R = Wk.heapP (pl l)) :
    Calls Tryz.prog 34 #[v] w fun e w' => ∃ hv, e = .returned (.tuple #[hv, .int .i64 R.2]) ∧ Below w.heap.size w w' ∧ (R.2 ≠ 0 → hv = .map none) ∧ (R.2 = 0 → ∃ m n bs, hv = .map (some m) ∧ n ≤ 1000 ∧ bs.length ≤ 1000 ∧ pl bs = R.1 ∧ w.heap.size ≤ m ∧ Mp w' m n (mpB bs)) := by
  obtain ⟨a, c, rfl, hc1, hc2⟩ := h.slice
  by_cases h1000 : 1000 < l.length
  · have HR : Hid (R = ([], 2)) := by show _ = _; rw [hR]; unfold Wk.heapP; rw [if_pos (by rw [pl_length]; exact h1000)]
    clear hR
    generalize l.length = n at *
    go_enter Tryz.func34, Tryz.ntmps34
    go_wp2_with fail
    go_ret2
    exact ⟨_, by rw [HR.out]; rfl, Below.refl _ _, fun _ => rfl, fun e => by rw [HR.out] at e; cases e⟩
  have HR0 : Hid (R = Wk.gath (pl (l.drop 0)) (pl [])) := by
    show _ = _; rw [hR]; unfold Wk.heapP; rw [if_neg (by rw [pl_length]; exact h1000)]; rfl
  have HX : Hid (Bx w (.slice a l.length c) l) := h
  have HK : Hid (BOk l) := hok
  have hmk := run_makeMap (P := Tryz.prog) 79 w
  have HM0 : Hid (Mp (w.alloc (.map #[] 0)) w.heap.size 0 (mpB [])) := Mp.new w
  have HB0 : Hid (Below w.heap.size w (w.alloc (.map #[] 0))) := (Below.refl _ w).alloc (Nat.le_refl _) _
  have hl1000 : l.length ≤ 1000 := by omega
  obtain ⟨N, hN⟩ : ∃ N, N = l.length := ⟨_, rfl⟩
  have HN : Hid (N = l.length) := hN
  rw [← hN] at HX hl1000 hc1 ⊢
  clear h hok hR h1000 hN
  go_enter Tryz.func34, Tryz.ntmps34
  go_wp2_with fail
  go_loopw [16] (fun i wr => ∃ (j n : Nat) (bk : List Blb), j ≤ N ∧ i = .int .i64 j ∧ n ≤ j ∧ bk.length ≤ j ∧ Hid (R = Wk.gath (pl (l.drop j)) (pl bk)) ∧ Hid (Mp wr w.heap.size n (mpB bk)) ∧ Hid (Below w.heap.size w wr)) (fun i _ => N - (intOf i).toNat)
  case atStart => exact ⟨0, 0, [], by omega, rfl, Nat.le_refl _, by simp, HR0, HM0, HB0⟩
  case round =>
    clear HR0 HM0 HB0 hmk
    obtain ⟨j, n, bk, hj, rfl, hnj, hbj, HR, HM, HB⟩ := hrel
    by_cases hlt : j < N
    · have hjl : j < l.length := by rw [← HN.out]; exact hlt
      obtain ⟨x, hx⟩ : ∃ x, l[j]? = some x := ⟨_, List.getElem?_eq_getElem hjl⟩
      have hXr := HX.out.below HB.out
      rw [HN.out] at hXr
      obtain ⟨kb, ko, rfl, hkb, x0, x1⟩ := hXr.blob j x hx
      obtain ⟨s1, s2⟩ := gath_step hx HR.out
      have HS1 : Hid (errI bk x ≠ 0 → R = ([], errI bk x)) := s1
      have HS2 : Hid (errI bk x = 0 → R = Wk.gath (pl (l.drop (j + 1))) (pl (more bk x))) := s2
      have hmore := more_length bk x
      obtain ⟨WA, hWA⟩ : ∃ WA, WA = wr.alloc (.cells #[.int .i64 x.kind, .string x.bytes] 111) := ⟨_, rfl⟩
      have hbA : Below wr.heap.size wr WA := by rw [hWA]; exact (Below.refl _ wr).alloc (Nat.le_refl _) _
      have HBA : Hid (Below w.heap.size w WA) := HB.out.trans (hbA.mono HB.out.size)
      have hput := hput_any w.heap.size n bk x WA (HM.out.below hbA) (by omega) (HK.out x (List.mem_of_getElem? hx)).2
      obtain ⟨b0, b1, b2, b3, b4, b5, b6, b7, hL⟩ := eight _ (idI_length bk x)
      have hput' : Calls Tryz.prog 49 #[.map (some w.heap.size), .agg #[.int .i64 x.kind, .string x.bytes]] WA fun e w' => e = .returned (.tuple #[.agg #[.int .u8 (b0.toNat : Int), .int .u8 (b1.toNat : Int), .int .u8 (b2.toNat : Int), .int .u8 (b3.toNat : Int), .int .u8 (b4.toNat : Int), .int .u8 (b5.toNat : Int), .int .u8 (b6.toNat : Int), .int .u8 (b7.toNat : Int)], .bool (newI bk x), .int .i64 (errI bk x)]) ∧ (∃ n', n' ≤ n + 1 ∧ Mp w' w.heap.size n' (mpB (more bk x))) ∧ Kept (fun k => k ≠ w.heap.size) WA w' := by
        rw [hL] at hput
        exact hput
      have hmw : w.heap.size < WA.heap.size := by have := HM.out.lt; have := hbA.size; omega
      generalize newI bk x = NW at *
      generalize errI bk x = ER at *
      generalize more bk x = MB at *
      obtain ⟨xk, xb⟩ := x
      dsimp only at *
      clear hput hL s1 s2 hXr hx hjl hbA HM HR
      go_wp2_with fail
      rw [← hWA]
      refine hput'.mono ?_
      rintro e w3 ⟨rfl, ⟨n', hn', hm3⟩, k3⟩
      have HB3 : Hid (Below w.heap.size w w3) := HBA.out.trans (k3.below (Nat.le_of_lt hmw) (fun k hk => by omega))
      have HM3 : Hid (Mp w3 w.heap.size n' (mpB MB)) := hm3
      have hs3 := HB3.out.size
      clear hWA hput' hm3 k3 x0 x1 hkb hmw HB HBA
      by_cases hE : ER = 0
      · have HR2 := (show Hid _ from HS2.out hE)
        subst hE
        have HB4 : Hid (Below w.heap.size w (w3.alloc (.cells #[.int .u8 (b0.toNat : Int), .int .u8 (b1.toNat : Int), .int .u8 (b2.toNat : Int), .int .u8 (b3.toNat : Int), .int .u8 (b4.toNat : Int), .int .u8 (b5.toNat : Int), .int .u8 (b6.toNat : Int), .int .u8 (b7.toNat : Int)] 39))) := HB3.out.alloc hs3 _
        have HM4 : Hid (Mp (w3.alloc (.cells #[.int .u8 (b0.toNat : Int), .int .u8 (b1.toNat : Int), .int .u8 (b2.toNat : Int), .int .u8 (b3.toNat : Int), .int .u8 (b4.toNat : Int), .int .u8 (b5.toNat : Int), .int .u8 (b6.toNat : Int), .int .u8 (b7.toNat : Int)] 39)) w.heap.size n' (mpB MB)) := HM3.out.below ((Below.refl _ w3).alloc (Nat.le_refl _) _)
        clear HS1 HS2
        go_wp2_with fail
        go_roundw
        case measure => simp only [intOf]; omega
        case rel => exact ⟨j + 1, n', MB, by omega, by go_num, by omega, by omega, HR2, HM4, HB4⟩
      · have hRe := HS1.out hE
        have HRe : Hid (R = ([], ER)) := hRe
        have hne : (ER != 0) = true := by rw [bne_iff_ne]; exact hE
        have HE : Hid (ER ≠ 0) := hE
        have HB4 : Hid (Below w.heap.size w (w3.alloc (.cells #[.int .u8 (b0.toNat : Int), .int .u8 (b1.toNat : Int), .int .u8 (b2.toNat : Int), .int .u8 (b3.toNat : Int), .int .u8 (b4.toNat : Int), .int .u8 (b5.toNat : Int), .int .u8 (b6.toNat : Int), .int .u8 (b7.toNat : Int)] 39))) := HB3.out.alloc hs3 _
        clear HS1 HS2 hRe hE
        go_wp2_with fail
        go_ret2
        exact ⟨_, by rw [HRe.out]; rfl, HB4.out, fun _ => rfl, fun e => by rw [HRe.out] at e; exact absurd e HE.out⟩
    · obtain rfl : j = N := by omega
      have HRe : Hid (R = (pl bk, 0)) := by
        have e : l.drop j = [] := by rw [HN.out]; exact List.drop_of_length_le (Nat.le_refl _)
        show _ = _
        rw [HR.out, e]; rfl
      clear HR
      go_wp2_with fail
      go_ret2
      exact ⟨_, by rw [HRe.out]; rfl, HB.out, fun e => absurd (by rw [HRe.out]) e, fun _ => ⟨_, n, bk, rfl, by omega, by omega, by rw [HRe.out], Nat.le_refl _, HM.out⟩⟩
end Go.Proofs.YthpcbbkpjggjbaaGreatDoor
namespace Go.Proofs.YthpcbbkpjggjbaaGreatDoor
open Go.RowKit
set_option maxRecDepth 4000
theorem rfile_step {L : List Pk.Bl} {size : Int} {ps : List Wk.Bs} {j : Nat} {id : Wk.Bs} (hx : ps[j]? = some id) {out : Wk.Bs} {R : Wk.Bs × Int} (h : R = Wk.reapFile L size (ps.drop j) out) :
    ((Wk.blobOf L id 1).2 ≠ 0 → R = ([], (Wk.blobOf L id 1).2)) ∧ ((Wk.blobOf L id 1).2 = 0 → size < ((out ++ (Wk.blobOf L id 1).1).length : Int) → R = ([], 4)) ∧
    ((Wk.blobOf L id 1).2 = 0 → ¬ size < ((out ++ (Wk.blobOf L id 1).1).length : Int) → R = Wk.reapFile L size (ps.drop (j + 1)) (out ++ (Wk.blobOf L id 1).1)) := by
  have hlt := (List.getElem?_eq_some_iff.1 hx).1
  have e0 : ps.drop j = id :: ps.drop (j + 1) := by rw [List.drop_eq_getElem_cons hlt, (List.getElem?_eq_some_iff.1 hx).2]
  rw [e0, Wk.reapFile] at h
  refine ⟨fun hE => ?_, fun hE hs => ?_, fun hE hs => ?_⟩
  · rw [h, if_pos hE]
  · rw [h, if_neg (fun q => q hE), if_pos hs]
  · rw [h, if_neg (fun q => q hE), if_neg hs]
def Sm (bs : List Blb) : Prop := ∀ x ∈ bs, x.bytes.size ≤ 4096
theorem blobOf_small {bs : List Blb} (h : Sm bs) (id : Wk.Bs) (k : Int) : (Wk.blobOf (pl bs) id k).1.length ≤ 4096 := by
  unfold Wk.blobOf
  rcases find_bid bs id with ⟨h1, _⟩ | ⟨o, ho, h1, _⟩
  · rw [h1]; simp
  · rw [h1]
    dsimp only
    split
    · simp
    · have := h o ho
      rw [Lib.size_eq] at this
      exact this
set_option maxHeartbeats 4000000 in
set_option maxRecDepth 10000 in
theorem rfile_any (b m nq : Nat) (bs : List Blb) (n : Nod) (pv iv : Value) (w : World) (hb : w.heap[b]? = some (.cells #[.map (some m), iv] 87 (0, 0))) (hm : Mp w m nq (mpB bs)) (hsm : Sm bs)
    (hp : Rx 8 idC w pv n.parts) (h8 : ∀ t ∈ n.parts, t.length = 8) (hs0 : 0 ≤ n.size) (hs1 : n.size ≤ 4096) (hl : n.parts.length ≤ 300) (R : Wk.Bs × Int) (hR : R = Wk.reapFile (pl bs) n.size n.parts []) :
    Calls Tryz.prog 69 #[.pointer (some ⟨b, 0, none⟩), .agg (ndC n pv).toArray] w fun e w' => e = .returned (.tuple #[.string ⟨R.1.toArray⟩, .int .i64 R.2]) ∧ Below w.heap.size w w' ∧ R.1.length ≤ 4096 := by
  obtain ⟨i0, hi, hz0, hz1, hz2⟩ := info_parts info_u8
  obtain ⟨name, kind, mode, time, size, parts, link⟩ := n
  dsimp only [ndC] at *
  obtain ⟨sz, rfl⟩ := Int.eq_ofNat_of_zero_le hs0
  obtain ⟨pa, pc, rfl, hpc1, hpc2⟩ := hp.slice
  obtain ⟨W1, hW1⟩ : ∃ W1, W1 = w.alloc (.cells #[.string name, .int .i64 kind, .int .i64 mode, .int .i64 time, .int .i64 sz, .slice pa parts.length pc, .string link] 104) := ⟨_, rfl⟩
  have hB1 : Below w.heap.size w W1 := by rw [hW1]; exact (Below.refl _ w).alloc (Nat.le_refl _) _
  have HB1 : Hid (Below w.heap.size w W1) := hB1
  have HW1s : Hid (W1.heap.size = w.heap.size + 1) := by show _ = _; rw [hW1, World.size_alloc]
  have HM : Hid (W1.heap[w.heap.size]? = some (.cells #[.string name, .int .i64 kind, .int .i64 mode, .int .i64 time, .int .i64 sz, .slice pa parts.length pc, .string link] 104 (0, 0))) := by rw [hW1]; exact heap_alloc_new w _
  have HR0 : Hid (R = Wk.reapFile (pl bs) sz (parts.drop 0) []) := hR
  have HX : Hid (Rx 8 idC w (.slice pa parts.length pc) parts) := hp
  have HR2 : Hid (w.heap[b]? = some (.cells #[.map (some m), iv] 87 (0, 0))) := hb
  have HMp : Hid (Mp w m nq (mpB bs)) := hm
  have HSm : Hid (Sm bs) := hsm
  have H8 : Hid (∀ t ∈ parts, t.length = 8) := h8
  obtain ⟨n0, n1, n2, n3, n4, n5, n6, nlt⟩ := sev_at HM.out
  obtain ⟨N, hN⟩ : ∃ N, N = parts.length := ⟨_, rfl⟩
  have HN : Hid (N = parts.length) := hN
  rw [← hN] at HX n5 HM hl ⊢
  obtain ⟨PB, hPB⟩ : ∃ PB, PB = w.heap.size := ⟨_, rfl⟩
  have HPB : Hid (PB = w.heap.size) := hPB
  rw [← hN] at hW1
  clear hR hp hb hm hsm h8 hB1 hpc1 hpc2 hN
  go_enter Tryz.func69, Tryz.ntmps69
  go_upto_region 1 with fail
  rw [← hW1]
  clear hW1
  rw [← hPB] at HM n0 n1 n2 n3 n4 n5 n6 nlt ⊢
  clear hPB
  go_wp2_with fail
  go_loopw [6, 14] (fun vo i wr => ∃ (j : Nat) (out : Wk.Bs), j ≤ N ∧ i = .int .i64 j ∧ out.length ≤ 4096 ∧ (out.length : Int) ≤ sz ∧ Hid (R = Wk.reapFile (pl bs) sz (parts.drop j) out) ∧ Hid (wr.ownsRow (w.heap.size + 1) 5 1 vo out.length (out.map B)) ∧ Hid (Below w.heap.size w wr) ∧ Hid (Below W1.heap.size W1 wr)) (fun _ i _ => N - (intOf i).toNat)
  case atStart => exact ⟨0, [], by omega, rfl, by simp, by simp, HR0, World.ownsRow_nil _ _ _ _, HB1, Below.refl _ _⟩
  case round =>
    clear HR0 HB1
    obtain ⟨j, out, hj, rfl, ho1, ho2, HR, HO, HB, HB1⟩ := hrel
    have hnd := (HB1.out.block _ (Array.getElem?_eq_some_iff.1 HM.out).1).trans HM.out
    obtain ⟨d0, d1, d2, d3, d4, d5, d6, dlt⟩ := sev_at hnd
    clear n0 n1 n2 n3 n4 n5 n6 nlt
    obtain ⟨oa, oc, evo⟩ := own_form HO.out
    subst evo
    by_cases hlt : j < N
    · have hjl : j < parts.length := by rw [← HN.out]; exact hlt
      obtain ⟨id, hx⟩ : ∃ id, parts[j]? = some id := ⟨_, List.getElem?_eq_getElem hjl⟩
      have hid := H8.out id (List.mem_of_getElem? hx)
      obtain ⟨s1, s2, s3⟩ := rfile_step hx HR.out
      have hXr := HX.out.below HB.out
      rw [HN.out] at hXr
      obtain ⟨kb, ko, rfl, hkb, hcell⟩ := hXr.get j id hx
      obtain ⟨b0, b1, b2, b3, b4, b5, b6, b7, rfl⟩ := eight id hid
      obtain ⟨x0, x1, x2, x3, x4, x5, x6, x7⟩ : wr.cell? ⟨kb, ko + j * 8, none⟩ = some (.int .u8 (b0.toNat : Int)) ∧ wr.cell? ⟨kb, ko + j * 8 + 1, none⟩ = some (.int .u8 (b1.toNat : Int)) ∧ wr.cell? ⟨kb, ko + j * 8 + 2, none⟩ = some (.int .u8 (b2.toNat : Int)) ∧ wr.cell? ⟨kb, ko + j * 8 + 3, none⟩ = some (.int .u8 (b3.toNat : Int)) ∧
          wr.cell? ⟨kb, ko + j * 8 + 4, none⟩ = some (.int .u8 (b4.toNat : Int)) ∧ wr.cell? ⟨kb, ko + j * 8 + 5, none⟩ = some (.int .u8 (b5.toNat : Int)) ∧ wr.cell? ⟨kb, ko + j * 8 + 6, none⟩ = some (.int .u8 (b6.toNat : Int)) ∧ wr.cell? ⟨kb, ko + j * 8 + 7, none⟩ = some (.int .u8 (b7.toNat : Int)) :=
        ⟨hcell 0 _ rfl, hcell 1 _ rfl, hcell 2 _ rfl, hcell 3 _ rfl, hcell 4 _ rfl, hcell 5 _ rfl, hcell 6 _ rfl, hcell 7 _ rfl⟩
      have hgl := blobOf_small HSm.out [b0, b1, b2, b3, b4, b5, b6, b7] 1
      obtain ⟨WA, hWA⟩ : ∃ WA, WA = wr.alloc (.cells #[.int .u8 (b0.toNat : Int), .int .u8 (b1.toNat : Int), .int .u8 (b2.toNat : Int), .int .u8 (b3.toNat : Int), .int .u8 (b4.toNat : Int), .int .u8 (b5.toNat : Int), .int .u8 (b6.toNat : Int), .int .u8 (b7.toNat : Int)] 39) := ⟨_, rfl⟩
      have hbA : Below wr.heap.size wr WA := by rw [hWA]; exact (Below.refl _ wr).alloc (Nat.le_refl _) _
      have HBA : Hid (Below w.heap.size w WA) := HB.out.trans (hbA.mono HB.out.size)
      have HB1A : Hid (Below W1.heap.size W1 WA) := HB1.out.trans (hbA.mono HB1.out.size)
      have HOA : Hid (WA.ownsRow (w.heap.size + 1) 5 1 (.slice oa out.length oc) out.length (out.map B)) := own_below HO.out hbA
      have hIA : WA.heap[wr.heap.size]? = some (.cells #[.int .u8 (b0.toNat : Int), .int .u8 (b1.toNat : Int), .int .u8 (b2.toNat : Int), .int .u8 (b3.toNat : Int), .int .u8 (b4.toNat : Int), .int .u8 (b5.toNat : Int), .int .u8 (b6.toNat : Int), .int .u8 (b7.toNat : Int)] 39 (0, 0)) := by rw [hWA]; exact heap_alloc_new wr _
      have HcI : Hid (∀ W, Gw WA W → W.cell? ⟨wr.heap.size, 0, none⟩ = some (.int .u8 (b0.toNat : Int)) ∧ W.cell? ⟨wr.heap.size, 1, none⟩ = some (.int .u8 (b1.toNat : Int)) ∧ W.cell? ⟨wr.heap.size, 2, none⟩ = some (.int .u8 (b2.toNat : Int)) ∧ W.cell? ⟨wr.heap.size, 3, none⟩ = some (.int .u8 (b3.toNat : Int)) ∧ W.cell? ⟨wr.heap.size, 4, none⟩ = some (.int .u8 (b4.toNat : Int)) ∧ W.cell? ⟨wr.heap.size, 5, none⟩ = some (.int .u8 (b5.toNat : Int)) ∧ W.cell? ⟨wr.heap.size, 6, none⟩ = some (.int .u8 (b6.toNat : Int)) ∧ W.cell? ⟨wr.heap.size, 7, none⟩ = some (.int .u8 (b7.toNat : Int))) := fun W hW =>
        (I8.laid ((Below.block hW _ (Array.getElem?_eq_some_iff.1 hIA).1).trans hIA)).cells
      have HcB : Hid (∀ W, Gw WA W → W.cell? ⟨b, 0, none⟩ = some (.map (some m))) := fun W hW => by
        have h1 := (HBA.out.block _ (Array.getElem?_eq_some_iff.1 HR2.out).1).trans HR2.out
        have h2 := (Below.block hW _ (Array.getElem?_eq_some_iff.1 h1).1).trans h1
        simp [World.cell?, h2]
      have hget : ∀ W, Gw WA W → Calls Tryz.prog 50 #[.map (some m), .agg #[.int .u8 (b0.toNat : Int), .int .u8 (b1.toNat : Int), .int .u8 (b2.toNat : Int), .int .u8 (b3.toNat : Int), .int .u8 (b4.toNat : Int), .int .u8 (b5.toNat : Int), .int .u8 (b6.toNat : Int), .int .u8 (b7.toNat : Int)], .int .i64 1] W fun e w' => e = .returned (.tuple #[.string ⟨(Wk.blobOf (pl bs) [b0, b1, b2, b3, b4, b5, b6, b7] 1).1.toArray⟩, .int .i64 (Wk.blobOf (pl bs) [b0, b1, b2, b3, b4, b5, b6, b7] 1).2]) ∧ Below W.heap.size W w' :=
        fun W hW => hget_any m nq bs [b0, b1, b2, b3, b4, b5, b6, b7] rfl 1 W ((HMp.out.below HBA.out).below hW)
      rcases hG : Wk.blobOf (pl bs) [b0, b1, b2, b3, b4, b5, b6, b7] 1 with ⟨gs, GE⟩
      rw [hG] at hget s1 s2 s3 hgl
      dsimp only at hget s1 s2 s3 hgl
      obtain ⟨GS, hGS⟩ : ∃ GS : ByteArray, GS = ⟨gs.toArray⟩ := ⟨_, rfl⟩
      have hGd : GS.data.toList = gs := by rw [hGS]
      rw [← hGS] at hget
      obtain ⟨gz, hgz⟩ : ∃ gz, gz = GS.size := ⟨_, rfl⟩
      have hgsz : gz = gs.length := by rw [hgz, Lib.size_eq, hGd]
      rw [← hGd, List.length_append] at s2 s3
      have HS1 : Hid (GE ≠ 0 → R = ([], GE)) := s1
      have HS2 : Hid (GE = 0 → (sz : Int) < ((out.length + GS.data.toList.length : Nat) : Int) → R = ([], 4)) := s2
      have HS3 : Hid (GE = 0 → ¬ (sz : Int) < ((out.length + GS.data.toList.length : Nat) : Int) → R = Wk.reapFile (pl bs) sz (parts.drop (j + 1)) (out ++ GS.data.toList)) := s3
      have HGz : Hid (GS.data.toList.length = gz ∧ gz = GS.size ∧ gz ≤ 4096) := ⟨by rw [hGd, hgsz], hgz, by omega⟩
      have hgz2 : GS.size ≤ 4096 := by omega
      obtain ⟨ON, hON⟩ : ∃ ON, ON = out.length := ⟨_, rfl⟩
      have HON : Hid (ON = out.length) := hON
      rw [← hON] at HOA ho1 ho2 ⊢
      clear s1 s2 s3 hG hGS hGd hgz hgsz hgl hXr hx hid hcell hIA hbA HO HB HB1 HR hON hjl
      go_upto_region 5 with fail
      rw [← hWA]
      clear hWA x0 x1 x2 x3 x4 x5 x6 x7 hkb d0 d1 d2 d3 d4 d5 d6 dlt hnd
      by_cases hE : GE = 0
      case neg =>
        have HRe : Hid (R = ([], GE)) := HS1.out hE
        have hne : (GE != 0) = true := by rw [bne_iff_ne]; exact hE
        clear HS1 HS2 HS3 hE
        refine wp_region_rel (G := Gw) (W0 := WA) Gw.refl Gw.trans (by kernel_rfl) (by kernel_rfl) (by kernel_rfl) (Below.refl _ WA).drew ?_
        refine .inl ⟨.pointer (some ⟨b, 0, none⟩), fun v W hW hd => step_run rfl _ W (by clear hd; go_simp) rfl (Gw.refl _), ?_⟩
        simp only [Act.put, List.setIfInBounds_toArray, List.set_cons_zero, List.set_cons_succ]
        refine .inl ⟨.pointer (some ⟨b, 0, none⟩), fun v W hW hd => step_run rfl _ W (by clear hd; go_simp) rfl (Gw.refl _), ?_⟩
        simp only [Act.put, List.setIfInBounds_toArray, List.set_cons_zero, List.set_cons_succ]
        refine .inl ⟨.pointer (some ⟨b, 0, none⟩), fun v W hW hd => step_run rfl _ W (by clear hd; go_simp) rfl (Gw.refl _), ?_⟩
        simp only [Act.put, List.setIfInBounds_toArray, List.set_cons_zero, List.set_cons_succ]
        refine .inl ⟨.map (some m), fun v W hW hd => step_run rfl _ W (by clear hd; have ce := HcB.out W hW; go_simp) rfl (Gw.refl _), ?_⟩
        simp only [Act.put, List.setIfInBounds_toArray, List.set_cons_zero, List.set_cons_succ]
        refine .inl ⟨.agg #[.int .u8 (b0.toNat : Int), .int .u8 (b1.toNat : Int), .int .u8 (b2.toNat : Int), .int .u8 (b3.toNat : Int), .int .u8 (b4.toNat : Int), .int .u8 (b5.toNat : Int), .int .u8 (b6.toNat : Int), .int .u8 (b7.toNat : Int)], fun v W hW hd => step_run rfl _ W (by clear hd; obtain ⟨c0, c1, c2, c3, c4, c5, c6, c7⟩ := HcI.out W hW; go_simp) rfl (Gw.refl _), ?_⟩
        simp only [Act.put, List.setIfInBounds_toArray, List.set_cons_zero, List.set_cons_succ]
        refine .inl ⟨.tuple #[.string GS, .int .i64 GE], fun v W hW hd => step_call rfl 50 #[.map (some m), .agg #[.int .u8 (b0.toNat : Int), .int .u8 (b1.toNat : Int), .int .u8 (b2.toNat : Int), .int .u8 (b3.toNat : Int), .int .u8 (b4.toNat : Int), .int .u8 (b5.toNat : Int), .int .u8 (b6.toNat : Int), .int .u8 (b7.toNat : Int)], .int .i64 1] (by clear hd; go_simp) ((hget W hW).mono fun e w' h => ⟨_, h.1, rfl, h.2⟩), ?_⟩
        simp only [Act.put, List.setIfInBounds_toArray, List.set_cons_zero, List.set_cons_succ]
        refine .inl ⟨.tuple #[.string GS, .int .i64 GE], fun v W hW hd => step_run rfl _ W (by clear hd; go_simp) rfl (Gw.refl _), ?_⟩
        simp only [Act.put, List.setIfInBounds_toArray, List.set_cons_zero, List.set_cons_succ]
        refine .inl ⟨.string GS, fun v W hW hd => step_run rfl _ W (by clear hd; go_simp) rfl (Gw.refl _), ?_⟩
        simp only [Act.put, List.setIfInBounds_toArray, List.set_cons_zero, List.set_cons_succ]
        refine .inl ⟨.int .i64 GE, fun v W hW hd => step_run rfl _ W (by clear hd; go_simp) rfl (Gw.refl _), ?_⟩
        simp only [Act.put, List.setIfInBounds_toArray, List.set_cons_zero, List.set_cons_succ]
        refine .inl ⟨.string GS, fun v W hW hd => step_run rfl _ W (by clear hd; go_simp) rfl (Gw.refl _), ?_⟩
        simp only [Act.put, List.setIfInBounds_toArray, List.set_cons_zero, List.set_cons_succ]
        refine .inl ⟨.int .i64 GE, fun v W hW hd => step_run rfl _ W (by clear hd; go_simp) rfl (Gw.refl _), ?_⟩
        simp only [Act.put, List.setIfInBounds_toArray, List.set_cons_zero, List.set_cons_succ]
        intro v w3 hW3 hV
        clear hV
        have HB3 : Hid (Below w.heap.size w w3) := HBA.out.trans (Below.mono hW3 HBA.out.size)
        clear hget HcI HcB hW3
        go_wp2_with fail
        go_ret2
        exact ⟨by rw [HRe.out]; rfl, HB3.out, by rw [HRe.out]; simp⟩
      have HSz := (show Hid _ from HS2.out hE)
      have HSy := (show Hid _ from HS3.out hE)
      subst hE
      clear HS1 HS2 HS3
      refine wp_region_rel (G := Gw) (W0 := WA) Gw.refl Gw.trans (by kernel_rfl) (by kernel_rfl) (by kernel_rfl) (Below.refl _ WA).drew ?_
      refine .inl ⟨.pointer (some ⟨b, 0, none⟩), fun v W hW hd => step_run rfl _ W (by clear hd; go_simp) rfl (Gw.refl _), ?_⟩
      simp only [Act.put, List.setIfInBounds_toArray, List.set_cons_zero, List.set_cons_succ]
      refine .inl ⟨.pointer (some ⟨b, 0, none⟩), fun v W hW hd => step_run rfl _ W (by clear hd; go_simp) rfl (Gw.refl _), ?_⟩
      simp only [Act.put, List.setIfInBounds_toArray, List.set_cons_zero, List.set_cons_succ]
      refine .inl ⟨.pointer (some ⟨b, 0, none⟩), fun v W hW hd => step_run rfl _ W (by clear hd; go_simp) rfl (Gw.refl _), ?_⟩
      simp only [Act.put, List.setIfInBounds_toArray, List.set_cons_zero, List.set_cons_succ]
      refine .inl ⟨.map (some m), fun v W hW hd => step_run rfl _ W (by clear hd; have ce := HcB.out W hW; go_simp) rfl (Gw.refl _), ?_⟩
      simp only [Act.put, List.setIfInBounds_toArray, List.set_cons_zero, List.set_cons_succ]
      refine .inl ⟨.agg #[.int .u8 (b0.toNat : Int), .int .u8 (b1.toNat : Int), .int .u8 (b2.toNat : Int), .int .u8 (b3.toNat : Int), .int .u8 (b4.toNat : Int), .int .u8 (b5.toNat : Int), .int .u8 (b6.toNat : Int), .int .u8 (b7.toNat : Int)], fun v W hW hd => step_run rfl _ W (by clear hd; obtain ⟨c0, c1, c2, c3, c4, c5, c6, c7⟩ := HcI.out W hW; go_simp) rfl (Gw.refl _), ?_⟩
      simp only [Act.put, List.setIfInBounds_toArray, List.set_cons_zero, List.set_cons_succ]
      refine .inl ⟨.tuple #[.string GS, .int .i64 0], fun v W hW hd => step_call rfl 50 #[.map (some m), .agg #[.int .u8 (b0.toNat : Int), .int .u8 (b1.toNat : Int), .int .u8 (b2.toNat : Int), .int .u8 (b3.toNat : Int), .int .u8 (b4.toNat : Int), .int .u8 (b5.toNat : Int), .int .u8 (b6.toNat : Int), .int .u8 (b7.toNat : Int)], .int .i64 1] (by clear hd; go_simp) ((hget W hW).mono fun e w' h => ⟨_, h.1, rfl, h.2⟩), ?_⟩
      simp only [Act.put, List.setIfInBounds_toArray, List.set_cons_zero, List.set_cons_succ]
      refine .inl ⟨.tuple #[.string GS, .int .i64 0], fun v W hW hd => step_run rfl _ W (by clear hd; go_simp) rfl (Gw.refl _), ?_⟩
      simp only [Act.put, List.setIfInBounds_toArray, List.set_cons_zero, List.set_cons_succ]
      refine .inl ⟨.string GS, fun v W hW hd => step_run rfl _ W (by clear hd; go_simp) rfl (Gw.refl _), ?_⟩
      simp only [Act.put, List.setIfInBounds_toArray, List.set_cons_zero, List.set_cons_succ]
      refine .inl ⟨.int .i64 0, fun v W hW hd => step_run rfl _ W (by clear hd; go_simp) rfl (Gw.refl _), ?_⟩
      simp only [Act.put, List.setIfInBounds_toArray, List.set_cons_zero, List.set_cons_succ]
      refine .inl ⟨.string GS, fun v W hW hd => step_run rfl _ W (by clear hd; go_simp) rfl (Gw.refl _), ?_⟩
      simp only [Act.put, List.setIfInBounds_toArray, List.set_cons_zero, List.set_cons_succ]
      refine .inl ⟨.int .i64 0, fun v W hW hd => step_run rfl _ W (by clear hd; go_simp) rfl (Gw.refl _), ?_⟩
      simp only [Act.put, List.setIfInBounds_toArray, List.set_cons_zero, List.set_cons_succ]
      intro v w3 hW3 hV
      clear hV
      have HB3 : Hid (Below w.heap.size w w3) := HBA.out.trans (Below.mono hW3 HBA.out.size)
      have HB13 : Hid (Below W1.heap.size W1 w3) := HB1A.out.trans (Below.mono hW3 HB1A.out.size)
      have ho3 : w3.ownsRow (w.heap.size + 1) 5 1 (.slice oa ON oc) ON (out.map B) := own_below HOA.out hW3
      have hws : w.heap.size + 1 ≤ w3.heap.size := by
        have h1 := HB13.out.size
        have h2 := (Array.getElem?_eq_some_iff.1 HM.out).1
        have h3 := HPB.out
        omega
      clear hget HcI HcB hW3
      go_wp2_with (at_builtin; refine Lib.wpList_append_own_string _ rfl (.tmp 30) (.tmp 31) 129 9 rfl (w.heap.size + 1) 5 i0 Tryz.underlying129 Tryz.underlying9 hi hz0 hz1 hz2 _ _ _ rfl ho3 GS rfl ?c3 ?c4 ?c5 ?_)
      case c3 => unfold maxLen; omega
      case c4 => omega
      intro v1 w5 hown5 hgrow _
      have hb5 : Below (w.heap.size + 1) w3 w5 := (Below.refl _ w3).grown hgrow hws fun q hq => (ho3.lt q hq).1
      have HB5 : Hid (Below w.heap.size w w5) := HB3.out.trans (hb5.mono (by omega))
      have HB15 : Hid (Below W1.heap.size W1 w5) := HB13.out.trans (hb5.mono (Nat.le_of_eq HW1s.out))
      have hnd5 := (HB15.out.block _ (Array.getElem?_eq_some_iff.1 HM.out).1).trans HM.out
      obtain ⟨d0, d1, d2, d3, d4, d5, d6, dlt⟩ := sev_at hnd5
      have HO5 : Hid (w5.ownsRow (w.heap.size + 1) 5 1 v1 (out ++ GS.data.toList).length ((out ++ GS.data.toList).map B)) := by
        show World.ownsRow _ _ _ _ _ _ _
        rw [List.length_append, ← HON.out, HGz.out.1, HGz.out.2.1, List.map_append]
        exact hown5
      have HLn : Hid ((out.length + GS.data.toList.length : Nat) = ON + GS.size) := by show _ = _; rw [← HON.out, HGz.out.1, HGz.out.2.1]
      obtain ⟨va, vc, ev1⟩ := own_form hown5
      subst ev1
      clear hown5 hgrow hb5 ho3 hnd5
      by_cases hgt : sz < ON + GS.size
      · have HRe : Hid (R = ([], 4)) := HSz.out (by rw [HLn.out]; exact_mod_cast hgt)
        clear HSz HSy
        go_wp2_with fail
        go_ret2
        exact ⟨by rw [HRe.out]; rfl, HB5.out, by rw [HRe.out]; simp⟩
      · have HRn : Hid (R = Wk.reapFile (pl bs) sz (parts.drop (j + 1)) (out ++ GS.data.toList)) := HSy.out (by rw [HLn.out]; omega)
        have ho5 : (out ++ GS.data.toList).length ≤ 4096 := by rw [List.length_append, HLn.out]; omega
        have ho6 : (((out ++ GS.data.toList).length : Nat) : Int) ≤ sz := by rw [List.length_append, HLn.out]; omega
        clear HSz HSy
        go_wp2_with fail
        go_roundw
        case measure => simp only [intOf]; omega
        case rel => exact ⟨j + 1, out ++ GS.data.toList, by omega, by go_num, ho5, ho6, HRn, HO5, HB5, HB15⟩
    · obtain rfl : j = N := by omega
      have hRz : R = if (out.length : Int) ≠ sz then ([], 4) else (out, 0) := by
        have e : parts.drop j = [] := by rw [HN.out]; exact List.drop_of_length_le (Nat.le_refl _)
        rw [HR.out, e]; rfl
      have hstr := run_str HO.out
      have HOl : Hid (out.length ≤ 4096) := ho1
      by_cases hsz : out.length < sz
      · have HRe : Hid (R = ([], 4)) := by show _ = _; rw [hRz, if_pos (by omega)]
        generalize out.length = ON at *
        clear hRz HR
        go_wp2_with fail
        go_ret2
        exact ⟨by rw [HRe.out]; rfl, HB.out, by rw [HRe.out]; simp⟩
      · have HRe : Hid (R = (out, 0)) := by show _ = _; rw [hRz, if_neg (by omega)]
        obtain ⟨OS, hOS⟩ : ∃ OS : ByteArray, OS = ⟨out.toArray⟩ := ⟨_, rfl⟩
        have HOS : Hid (OS = ⟨out.toArray⟩) := hOS
        rw [← hOS] at hstr
        generalize hON : out.length = ON at *
        clear hRz HR hOS
        go_wp2_with fail
        go_ret2
        exact ⟨by rw [HRe.out, HOS.out]; rfl, HB.out, by rw [HRe.out]; show out.length ≤ 4096; rw [hON]; exact HOl.out⟩
end Go.Proofs.YthpcbbkpjggjbaaGreatDoor
namespace Go.Proofs
open Go.Shelf
def Tryz.lays138_ren : Go.Shelf.Ren := ⟨fun | 138 => 68 | 195 => 85 | 218 => 86 | 143 => 87 | 219 => 108 | 217 => 120 | 225 => 121 | 224 => 122 | 267 => 123 | 266 => 131 | 314 => 132 | n => n, fun | 9 => 9 | 3 => 3 | 4 => 4 | 5 => 5 | 0 => 0 | 46 => 167 | 146 => 155 | 51 => 154 | n => n, fun | 1 => 0 | n => n⟩
theorem Tryz.lays138 : Go.Proofs.Lays.n138 Tryz.prog Tryz.lays138_ren := {
  mixed := by kernel_rfl
  f138 := Tryz.func68.trans (congrArg some (by kernel_rfl))
  f143 := Tryz.func87.trans (congrArg some (by kernel_rfl))
  f195 := Tryz.func85.trans (congrArg some (by kernel_rfl))
  f217 := Tryz.func120.trans (congrArg some (by kernel_rfl))
  f218 := Tryz.func86.trans (congrArg some (by kernel_rfl))
  f219 := Tryz.func108.trans (congrArg some (by kernel_rfl))
  f224 := Tryz.func122.trans (congrArg some (by kernel_rfl))
  f225 := Tryz.func121.trans (congrArg some (by kernel_rfl))
  f266 := Tryz.func131.trans (congrArg some (by kernel_rfl))
  f267 := Tryz.func123.trans (congrArg some (by kernel_rfl))
  f314 := Tryz.func132.trans (congrArg some (by kernel_rfl))
  t0 := Tryz.underlying0
  a0 := Tryz.isAgg0
  z0 := Tryz.sizeOf0
  v0 := Tryz.zeroValue0
  t3 := Tryz.underlying3
  a3 := Tryz.isAgg3
  z3 := Tryz.sizeOf3
  v3 := Tryz.zeroValue3
  t4 := Tryz.underlying4
  a4 := Tryz.isAgg4
  z4 := Tryz.sizeOf4
  v4 := Tryz.zeroValue4
  t5 := Tryz.underlying5
  a5 := Tryz.isAgg5
  z5 := Tryz.sizeOf5
  v5 := Tryz.zeroValue5
  t9 := Tryz.underlying9
  a9 := Tryz.isAgg9
  z9 := Tryz.sizeOf9
  v9 := Tryz.zeroValue9
  t46 := Tryz.underlying167
  a46 := Tryz.isAgg167
  z46 := Tryz.sizeOf167
  v46 := Tryz.zeroValue167
  t51 := Tryz.underlying154
  a51 := Tryz.isAgg154
  z51 := Tryz.sizeOf154
  v51 := Tryz.zeroValue154
  t146 := Tryz.underlying155
  a146 := Tryz.isAgg155
  z146 := Tryz.sizeOf155
  v146 := Tryz.zeroValue155
  g1 := by kernel_rfl }
open Go.RowKit Go.Lib in
theorem Tryz.strings_Count_one (s : ByteArray) (c : UInt8) (w : World) :
    Calls Tryz.prog 68 #[.string s, .string ⟨#[c]⟩] w fun e w' => e = .returned (.int .i64 (Lib.countByte s.data.toList c)) ∧ w' = w := Any.strings_Count_one Tryz.lays138 s c w
end Go.Proofs
namespace Go.Proofs.YthpcbbkpjggjbaaGreatDoor
open Go.RowKit
set_option maxRecDepth 4000
open Nn (Name)
namespace Wk
def rstep (l : List Pk.Bl) (sub : Bs → List Name → List It → List It × Int) (path : List Name) (n : Td.Nd) (w : List It) : List It × Int :=
  if 8 ≤ path.length then ([], 14) else if 100 ≤ w.length then ([], 2) else
  if (if n.kind = 1 then reapFile l n.size n.parts [] else (n.link, 0)).2 ≠ 0 then ([], (if n.kind = 1 then reapFile l n.size n.parts [] else (n.link, 0)).2) else
  if n.kind = 2 then sub (n.parts.headD []) (path ++ [n.name]) (w ++ [item path n (if n.kind = 1 then reapFile l n.size n.parts [] else (n.link, 0)).1]) else (w ++ [item path n (if n.kind = 1 then reapFile l n.size n.parts [] else (n.link, 0)).1], 0)
theorem rnodes_step (l : List Pk.Bl) (sub : Bs → List Name → List It → List It × Int) (path : List Name) (n : Td.Nd) (r : List Td.Nd) (w : List It) :
    reapNodes l sub path (n :: r) w = if (rstep l sub path n w).2 ≠ 0 then ([], (rstep l sub path n w).2) else reapNodes l sub path r (rstep l sub path n w).1 := by
  rw [reapNodes]
  unfold rstep
  by_cases h1 : 8 ≤ path.length
  · rw [if_pos h1, if_pos h1, if_pos (by decide)]
  rw [if_neg h1, if_neg h1]
  by_cases h2 : 100 ≤ w.length
  · rw [if_pos h2, if_pos h2, if_pos (by decide)]
  rw [if_neg h2, if_neg h2]
  dsimp only
  by_cases h3 : (if n.kind = 1 then reapFile l n.size n.parts [] else (n.link, 0)).2 ≠ 0
  · rw [if_pos h3, if_pos h3, if_pos h3]
  rw [if_neg h3, if_neg h3]
end Wk
structure Rpt (base b m nq : Nat) (bs : List Blb) (w : World) (items : List Im) : Prop where
  ex : ∃ iv, w.heap[b]? = some (.cells #[.map (some m), iv] 87 (0, 0)) ∧ w.ownsRow base 27 5 iv items.length (rowR imC items)
  map : Mp w m nq (mpB bs)
  at_ : base ≤ b
  atm : base ≤ m
  few : items.length ≤ 100
structure Rf (base : Nat) (A B : World) : Prop where
  low : Below base A B
  ko : Ko pR A B
theorem Rf.trans {base : Nat} {A B C : World} (h : Rf base A B) (k : Rf base B C) : Rf base A C := ⟨h.low.trans k.low, h.ko.trans k.ko⟩
theorem Rf.of_below {base : Nat} {A B : World} (h : Below A.heap.size A B) (hb : base ≤ A.heap.size) : Rf base A B := ⟨h.mono hb, Ko.of_below h⟩
theorem Rf.size {base : Nat} {A B : World} (h : Rf base A B) : A.heap.size ≤ B.heap.size := h.ko.size
theorem Rf.cells {base : Nat} {A B : World} (h : Rf base A B) {k : Nat} {cur : Array Value} {t : TypeId} {fr : Nat × Nat} (ho : A.heap[k]? = some (.cells cur t fr)) (h1 : t ≠ 27) (h2 : t ≠ 87) : B.heap[k]? = some (.cells cur t fr) :=
  h.ko.obj k _ ho ⟨h1, h2⟩
theorem Rpt.below {base b m nq : Nat} {bs : List Blb} {w w' : World} {items : List Im} (h : Rpt base b m nq bs w items) (hb : Below w.heap.size w w') : Rpt base b m nq bs w' items := by
  obtain ⟨⟨iv, p1, p2⟩, hm, ha, hc, hf⟩ := h
  exact ⟨⟨iv, (hb.block b (Array.getElem?_eq_some_iff.1 p1).1).trans p1, own_below p2 hb⟩, hm.below hb, ha, hc, hf⟩
theorem info_itm : (Tryz.prog.info? 27).map (fun i => (i.zero, i.size, i.bytes)) = some (some (.agg #[.string ⟨#[]⟩, .int .i64 0, .int .i64 0, .int .i64 0, .string ⟨#[]⟩]), 5, 56) := by kernel_rfl
theorem itm_at {W : World} {B : Nat} {v0 v1 v2 v3 v4 : Value} (h0 : W.cell? ⟨B, 0, none⟩ = some v0) (h1 : W.cell? ⟨B, 1, none⟩ = some v1) (h2 : W.cell? ⟨B, 2, none⟩ = some v2) (h3 : W.cell? ⟨B, 3, none⟩ = some v3) (h4 : W.cell? ⟨B, 4, none⟩ = some v4) :
    ∀ j u, [v0, v1, v2, v3, v4][j]? = some u → W.cell? ((⟨B, 0, none⟩ : Addr).add j) = some u := by
  intro j u hj
  rw [Addr.add_mid, Nat.zero_add]
  match j, hj with
  | 0, hj => rw [h0]; exact hj
  | 1, hj => rw [h1]; exact hj
  | 2, hj => rw [h2]; exact hj
  | 3, hj => rw [h3]; exact hj
  | 4, hj => rw [h4]; exact hj
theorem set_one {W : World} {M : Nat} {x y : Value} {T : TypeId} {fr : Nat × Nat} (h : W.heap[M]? = some (.cells #[x, y] T fr)) (a : Value) : (W.setCell ⟨M, 1, none⟩ a).heap[M]? = some (.cells #[x, a] T fr) := by
  simp [World.setCell, Array.getElem?_modify, h]
theorem pair_at {w : World} {b : Nat} {T : TypeId} {fr : Nat × Nat} {x0 x1 : Value} (h : w.heap[b]? = some (.cells #[x0, x1] T fr)) : w.cell? ⟨b, 0, none⟩ = some x0 ∧ w.cell? ⟨b, 1, none⟩ = some x1 := by
  constructor <;> simp [World.cell?, h]
def RDirOk (base b m nq : Nat) (bs : List Blb) (k : Nat) : Prop := ∀ (path : List Name) (id : Wk.Bs) (items : List Im) (w : World), path.length + k = 9 → (∀ s ∈ path, (47 : UInt8) ∉ s ∧ s.length ≤ 1024) → id.length = 8 → Rpt base b m nq bs w items → (∀ W, Below base w W → Tabs W) →
  ∀ R, R = Wk.reapDir (pl bs) k id path (its items) →
  Calls Tryz.prog 35 #[.pointer (some ⟨b, 0, none⟩), idV id, .string (mkB (Nn.tails path))] w fun e w' => e = .returned (.int .i64 R.2) ∧ Rf base w w' ∧ (R.2 = 0 → ∃ items', its items' = R.1 ∧ Rpt base b m nq bs w' items')
structure Nk (n : Nod) : Prop where
  kind : n.kind = 1 ∨ n.kind = 2 ∨ n.kind = 3
  name : (47 : UInt8) ∉ n.name.data.toList ∧ n.name.data.toList.length ≤ 1024
  size : 0 ≤ n.size ∧ n.size ≤ 4096
  many : n.parts.length ≤ 300
  dir : n.kind = 2 → n.parts.length = 1 ∧ n.link.data.toList = []
set_option maxHeartbeats 4000000 in
set_option maxRecDepth 10000 in
theorem rnode_file (base b m nq : Nat) (bs : List Blb) (hsm : Sm bs) (k : Nat) (_ : 1 ≤ k → RDirOk base b m nq bs k) (path : List Name) (hpk : path.length + (k + 1) = 9) (hps : ∀ s ∈ path, (47 : UInt8) ∉ s ∧ s.length ≤ 1024) (n : Nod) (pv : Value) (hnk : Nk n) (hkd : n.kind = 1) (items : List Im) (w : World)
    (h : Rpt base b m nq bs w items) (hng : NdG w n (ndC n pv)) (hT : ∀ W, Below base w W → Tabs W) (R : List Wk.It × Int) (hR : R = Wk.rstep (pl bs) (Wk.reapDir (pl bs) k) path n.nd (its items)) :
    Calls Tryz.prog 52 #[.pointer (some ⟨b, 0, none⟩), .agg (ndC n pv).toArray, .string (mkB (Nn.tails (path ++ [n.name.data.toList])))] w fun e w' => e = .returned (.int .i64 R.2) ∧ Rf base w w' ∧ (R.2 = 0 → ∃ items', its items' = R.1 ∧ Rpt base b m nq bs w' items') := by
  obtain ⟨i0, hi, hz0, hz1, hz2⟩ := info_parts info_itm
  obtain ⟨PS, hPS⟩ : ∃ PS, PS = mkB (Nn.tails (path ++ [n.name.data.toList])) := ⟨_, rfl⟩
  have hns : ∀ s ∈ path ++ [n.name.data.toList], (47 : UInt8) ∉ s ∧ s.length ≤ 1024 := fun s hs => by
    rcases List.mem_append.1 hs with q | q
    · exact hps s q
    · rw [List.mem_singleton.1 q]; exact hnk.name
  have hcnt : ∀ W, Calls Tryz.prog 68 #[.string PS, .string ⟨#[47]⟩] W fun e w' => e = .returned (.int .i64 ((path.length + 1 : Nat) : Int)) ∧ w' = W := fun W => by
    have := Tryz.strings_Count_one PS 47 W
    have e : Lib.countByte PS.data.toList 47 = path.length + 1 := by
      rw [hPS]
      show (Nn.tails (path ++ [n.name.data.toList])).count 47 = _
      rw [Wk.count_tails _ fun s hs => (hns s hs).1]
      simp
    rw [e] at this
    exact this
  have HItm : Hid (∀ (by_ : ByteArray), (⟨PS, n.kind, n.mode, n.time, by_⟩ : Im).it = Wk.item path n.nd by_.data.toList) := fun by_ => by
    show Wk.It.mk _ _ _ _ _ = Wk.It.mk _ _ _ _ _
    have e : PS.data.toList = Nn.joinB (path ++ [n.nd.name]) := by
      rw [Wk.joinB_tails (by simp), hPS]; rfl
    rw [e]; rfl
  have HPS : Hid (PS = mkB (Nn.tails (path ++ [n.name.data.toList]))) := hPS
  rw [← hPS]
  obtain ⟨⟨iv, p1, p2⟩, hmp, ha, hm, hfew⟩ := h
  have hblt : b < w.heap.size := (Array.getElem?_eq_some_iff.1 p1).1
  have hbase : base ≤ w.heap.size := by omega
  have hcells := pair_at p1
  obtain ⟨ia, ic, rfl⟩ := own_form p2
  have HIl : Hid ((its items).length = items.length) := its_length items
  have HR : Hid (R = Wk.rstep (pl bs) (Wk.reapDir (pl bs) k) path n.nd (its items)) := hR
  have HP1 : Hid (w.heap[b]? = some (.cells #[.map (some m), .slice ia items.length ic] 87 (0, 0))) := p1
  have HP2 : Hid (w.ownsRow base 27 5 (.slice ia items.length ic) items.length (rowR imC items)) := p2
  have HMp : Hid (Mp w m nq (mpB bs)) := hmp
  have HNg : Hid (NdG w n (ndC n pv)) := hng
  have HT : Hid (∀ W, Below base w W → Tabs W) := hT
  have HAt : Hid (base ≤ b ∧ base ≤ m) := ⟨ha, hm⟩
  obtain ⟨pv0, epv, hrx, hty, hno⟩ := hng
  obtain ⟨W1, hW1⟩ : ∃ W1, W1 = w.alloc (.cells (ndC n pv).toArray 104) := ⟨_, rfl⟩
  have hB1 : Below w.heap.size w W1 := by rw [hW1]; exact (Below.refl _ w).alloc (Nat.le_refl _) _
  have HB1 : Hid (Below w.heap.size w W1) := hB1
  have HM : Hid (W1.heap[w.heap.size]? = some (.cells (ndC n pv).toArray 104 (0, 0))) := by rw [hW1]; exact heap_alloc_new w _
  have HS1 : Hid (W1.heap.size = w.heap.size + 1) := by show _ = _; rw [hW1, World.size_alloc]
  have hb1 : W1.heap[b]? = some (.cells #[.map (some m), .slice ia items.length ic] 87 (0, 0)) := (hB1.block b hblt).trans p1
  obtain ⟨c0, c1⟩ := pair_at hb1
  skip
  obtain ⟨name, kind, mode, time, size, parts, link⟩ := n
  dsimp only [ndC] at *
  subst hkd
  obtain ⟨pa, pc, epc, hpc1, hpc2⟩ := hrx.slice
  cases epv
  subst epc
  obtain ⟨n0, n1, n2, n3, n4, n5, n6, nlt⟩ := sev_at HM.out
  have HK : Hid (Nk ⟨name, 1, mode, time, size, parts, link⟩) := hnk
  obtain ⟨PN, hPN⟩ : ∃ PN, PN = parts.length := ⟨_, rfl⟩
  have HPN : Hid (PN = parts.length) := hPN
  obtain ⟨IN, hIN⟩ : ∃ IN, IN = items.length := ⟨_, rfl⟩
  have HIN : Hid (IN = items.length) := hIN
  rw [← hIN] at HP1 c1 hfew hb1
  rw [← hPN] at n5 hW1 HM ⊢
  clear hPS hR hcells p1 hmp hT ha hm hrx hty hno hnk hB1 hPN hIN hpc1 hpc2 hb1
  go_enter Tryz.func52, Tryz.ntmps52
  go_upto_region 1 with fail
  rw [← hW1]
  clear hW1
  go_wp2_with fail
  refine (hcnt _).mono ?_
  rintro e u ⟨rfl, hu⟩
  obtain rfl := hu.symm
  clear hcnt hu
  by_cases hdp : 8 ≤ path.length
  · have HRe : Hid (R = ([], 14)) := by show _ = _; rw [HR.out]; unfold Wk.rstep; rw [if_pos hdp]
    have hgt : ((path.length + 1 : Nat) : Int) > 8 := by omega
    generalize path.length = PL at *
    clear HR
    go_wp2_with fail
    go_ret
    exact ⟨by rw [HRe.out]; rfl, Rf.of_below HB1.out hbase, fun e => by rw [HRe.out] at e; cases e⟩
  have hgt : ¬ ((path.length + 1 : Nat) : Int) > 8 := by omega
  by_cases hfl : IN = 100
  · have HRe : Hid (R = ([], 2)) := by show _ = _; rw [HR.out]; unfold Wk.rstep; rw [if_neg hdp, if_pos (by rw [HIl.out, ← HIN.out, hfl]; exact Nat.le_refl _)]
    generalize path.length = PL at *
    subst hfl
    clear HR
    go_wp2_with fail
    go_ret
    exact ⟨by rw [HRe.out]; rfl, Rf.of_below HB1.out hbase, fun e => by rw [HRe.out] at e; cases e⟩
  have hne1 : (((IN : Nat) : Int) == 100) = false := by rw [beq_eq_false_iff_ne]; omega
  obtain ⟨XI, hXI⟩ : ∃ XI, XI = W1.heap.size := ⟨_, rfl⟩
  have HXI : Hid (XI = w.heap.size + 1) := by show _ = _; rw [hXI]; exact HS1.out
  obtain ⟨W2, hW2⟩ : ∃ W2, W2 = W1.alloc (.cells #[.string PS, .int .i64 1, .int .i64 mode, .int .i64 time, .string ⟨#[]⟩] 27) := ⟨_, rfl⟩
  have hB2 : Below W1.heap.size W1 W2 := by rw [hW2]; exact (Below.refl _ W1).alloc (Nat.le_refl _) _
  have HB2 : Hid (Below w.heap.size w W2) := HB1.out.trans (hB2.mono HB1.out.size)
  have HN2 : Hid (W2.heap[w.heap.size]? = some (.cells #[.string name, .int .i64 1, .int .i64 mode, .int .i64 time, .int .i64 size, .slice pa PN pc, .string link] 104 (0, 0))) := (hB2.block _ (Array.getElem?_eq_some_iff.1 HM.out).1).trans HM.out
  have HIT2 : Hid (W2.heap[W1.heap.size]? = some (.cells #[.string PS, .int .i64 1, .int .i64 mode, .int .i64 time, .string ⟨#[]⟩] 27 (0, 0))) := by rw [hW2]; exact heap_alloc_new W1 _
  obtain ⟨F, hF⟩ : ∃ F, F = Wk.reapFile (pl bs) size parts [] := ⟨_, rfl⟩
  have hng2 : NdG W2 ⟨name, 1, mode, time, size, parts, link⟩ [.string name, .int .i64 1, .int .i64 mode, .int .i64 time, .int .i64 size, .slice pa parts.length pc, .string link] :=
    HNg.out.keep HB2.out.size fun q cur fr ho => (HB2.out.block q (Array.getElem?_eq_some_iff.1 ho).1).trans ho
  obtain ⟨pv9, e9, hr9, _, ho9⟩ := hng2
  cases e9
  have hfile := rfile_any b m nq bs ⟨name, 1, mode, time, size, parts, link⟩ (.slice pa parts.length pc) (.slice ia IN ic) W2 ((HB2.out.block b hblt).trans HP1.out) (HMp.out.below HB2.out) hsm hr9 ho9.ids HK.out.size.1 HK.out.size.2 HK.out.many F hF
  dsimp only [ndC] at hfile
  rw [← HPN.out] at hfile
  have HF : Hid (F = Wk.reapFile (pl bs) size parts []) := hF
  obtain ⟨j0, j1, j2, j3, j4, j5, j6, jlt⟩ := sev_at HN2.out
  obtain ⟨PL, hPL⟩ : ∃ PL, PL = path.length := ⟨_, rfl⟩
  have HPL : Hid (PL = path.length) := hPL
  rw [← hPL] at hgt ⊢
  clear hPL hr9 ho9 hF
  go_wp2_with fail
  go_upto_region 9 with fail
  rw [← hW2]
  clear hW2 n0 n1 n2 n3 n4 n5 n6 nlt c0 c1
  rw [← hXI] at HIT2 ⊢
  clear hXI
  have hfile' : Calls Tryz.prog 69 #[.pointer (some ⟨b, 0, none⟩), .agg #[.string name, .int .i64 1, .int .i64 mode, .int .i64 time, .int .i64 size, .slice pa PN pc, .string link]] W2 fun e w' => e = .returned (.tuple #[.string ⟨F.1.toArray⟩, .int .i64 F.2]) ∧ Below W2.heap.size W2 w' ∧ F.1.length ≤ 4096 := hfile
  obtain ⟨BY, hBY⟩ : ∃ BY : ByteArray, BY = ⟨F.1.toArray⟩ := ⟨_, rfl⟩
  have HBY : Hid (BY = ⟨F.1.toArray⟩) := hBY
  rw [← hBY] at hfile'
  clear hBY hfile
  go_wp2_with fail
  refine hfile'.mono ?_
  rintro e w3 ⟨rfl, b3, _⟩
  have hit3 : w3.heap[XI]? = some (.cells #[.string PS, .int .i64 1, .int .i64 mode, .int .i64 time, .string ⟨#[]⟩] 27 (0, 0)) := (b3.block _ (Array.getElem?_eq_some_iff.1 HIT2.out).1).trans HIT2.out
  have hn3 : w3.heap[w.heap.size]? = some (.cells #[.string name, .int .i64 1, .int .i64 mode, .int .i64 time, .int .i64 size, .slice pa PN pc, .string link] 104 (0, 0)) := (b3.block _ (Array.getElem?_eq_some_iff.1 HN2.out).1).trans HN2.out
  have HB3 : Hid (Below w.heap.size w w3) := HB2.out.trans (b3.mono HB2.out.size)
  obtain ⟨k0, k1, k2, k3, k4, klt⟩ := five_at hit3
  have kf := free_at hit3 4
  obtain ⟨WX, hWX⟩ : ∃ WX, WX = w3.setCell ⟨XI, 4, none⟩ (.string BY) := ⟨_, rfl⟩
  have HBX : Hid (Below w.heap.size w WX) := by
    have hx := HXI.out
    rw [hWX]; exact HB3.out.setCell (by show w.heap.size ≤ XI; omega) _
  have HNX : Hid (WX.heap[w.heap.size]? = some (.cells #[.string name, .int .i64 1, .int .i64 mode, .int .i64 time, .int .i64 size, .slice pa PN pc, .string link] 104 (0, 0))) := by
    have hx := HXI.out
    show _ = _
    rw [hWX, Below.heap_setCell _ _ _ _ (by show w.heap.size ≠ XI; omega)]; exact hn3
  have HITX : Hid (WX.heap[XI]? = some (.cells #[.string PS, .int .i64 1, .int .i64 mode, .int .i64 time, .string BY] 27 (0, 0))) := by
    show _ = _
    rw [hWX]
    simpa using set_at hit3 4 (.string BY)
  obtain ⟨j0, j1, j2, j3, j4, j5, j6, jlt⟩ := sev_at HNX.out
  clear hfile' b3 hit3 hn3
  by_cases hE : F.2 = 0
  case neg =>
    have HRe : Hid (R = ([], F.2)) := by
      show _ = _
      rw [HR.out]
      unfold Wk.rstep
      rw [if_neg hdp, if_neg (by rw [HIl.out, ← HIN.out]; omega)]
      have e : (if (Nod.nd ⟨name, 1, mode, time, size, parts, link⟩).kind = 1 then Wk.reapFile (pl bs) (Nod.nd ⟨name, 1, mode, time, size, parts, link⟩).size (Nod.nd ⟨name, 1, mode, time, size, parts, link⟩).parts [] else ((Nod.nd ⟨name, 1, mode, time, size, parts, link⟩).link, 0)) = F := by rw [HF.out]; rfl
      rw [e, if_pos hE]
    obtain ⟨ER, hER⟩ : ∃ ER, F.2 = ER := ⟨_, rfl⟩
    have hne : (ER != 0) = true := by rw [← hER, bne_iff_ne]; exact hE
    have HE : Hid (ER ≠ 0) := by show _ ≠ _; rw [← hER]; exact hE
    rw [hER] at HRe ⊢
    clear hER hE HR
    go_wp2_with fail
    rw [← hWX]
    go_ret
    exact ⟨by rw [HRe.out]; rfl, Rf.of_below HBX.out hbase, fun e => by rw [HRe.out] at e; exact absurd e HE.out⟩
  rw [hE]
  go_upto_region 14 with fail
  rw [← hWX]
  clear hWX k0 k1 k2 k3 k4 kf klt
  have hp2X : WX.ownsRow base 27 5 (.slice ia IN ic) IN (rowR imC items) := by rw [HIN.out]; exact own_below HP2.out HBX.out
  have HP2X : Hid (WX.ownsRow base 27 5 (.slice ia IN ic) IN (rowR imC items)) := hp2X
  have HP1X : Hid (WX.heap[b]? = some (.cells #[.map (some m), .slice ia IN ic] 87 (0, 0))) := (HBX.out.block b hblt).trans HP1.out
  obtain ⟨u0, u1, u2, u3, u4, ult⟩ := five_at HITX.out
  obtain ⟨c0, c1⟩ := pair_at HP1X.out
  have HObl : Hid (∀ g, (Value.slice ia IN ic).ownBlock = some g → g ≠ b ∧ g < WX.heap.size ∧ base ≤ g ∧ g ≠ m ∧ ∃ cur, WX.heap[g]? = some (.cells cur 27 (0, 0))) := fun g hg => by
    obtain ⟨cur, hc, h2, h3⟩ := own_block HP2X.out hg
    refine ⟨fun e => ?_, h3, h2, fun e => ?_, cur, hc⟩
    · subst e; rw [HP1X.out] at hc; cases hc
    · subst e
      obtain ⟨es, ck, hk⟩ := (HMp.out.below HBX.out).isMap
      rw [hk] at hc
      cases hc
  have hrow : ∀ o2, ((WX.alloc o2).drew).ownsRow base 27 5 (.slice ia IN ic) IN (rowR imC items) := fun o2 => (hp2X.alloc o2).drew
  have HQ : Hid (∀ o2 w1, ((WX.alloc o2).drew).grownBy w1 (Value.slice ia IN ic).ownBlock → w1.heap[b]? = some (.cells #[.map (some m), .slice ia IN ic] 87 (0, 0)) ∧ Kept (fun k => (Value.slice ia IN ic).ownBlock ≠ some k) WX w1) := by
    intro o2 w1 hg
    have hk : Kept (fun k => (Value.slice ia IN ic).ownBlock ≠ some k) WX w1 := Kept.grown ((Kept.refl _ WX).alloc o2).drew hg fun k hk hp => hp hk
    exact ⟨hk.obj (fun e => (HObl.out _ e).1 rfl) HP1X.out, hk⟩
  have hbX : b < WX.heap.size := (Array.getElem?_eq_some_iff.1 HP1X.out).1
  have hbw : base ≤ WX.heap.size := Nat.le_trans hbase HBX.out.size
  go_cut [] from 45 (fun wx => Hid (∃ g cap, wx.ownsRow base 27 5 (.slice (some ⟨g, 0, none⟩) (IN + 1) cap) (IN + 1) (rowR imC items ++ [.string PS, .int .i64 1, .int .i64 mode, .int .i64 time, .string BY]) ∧
    wx.heap[b]? = some (.cells #[.map (some m), .slice (some ⟨g, 0, none⟩) (IN + 1) cap] 87 (0, 0)) ∧ Kept (fun k => k ≠ b ∧ (Value.slice ia IN ic).ownBlock ≠ some k) WX wx))
  case first =>
    go_region_law ((refine step_append_lies _ (by rfl) (.tmp 49) (.tmp 51) 22 (by rfl) base 27 i0 (.agg #[.string ⟨#[]⟩, .int .i64 0, .int .i64 0, .int .i64 0, .string ⟨#[]⟩]) 5 56 Tryz.underlying22 hi hz0 hz1 hz2 rfl (by decide) (.slice ia IN ic) IN (rowR imC items) (by rfl) (hrow _) ⟨WX.heap.size, 0, none⟩ 1 1 [.string PS, .int .i64 1, .int .i64 mode, .int .i64 time, .string BY] (by rfl) (by rfl) (itm_at (by simp) (by simp) (by simp) (by simp) (by simp)) (by simp [Value.oneCell']) (by decide) (by unfold maxLen; omega) (by omega) (by simp; omega) (WX.heap.size + 1) (by simp) ?_; intro g cap w1 hown1 hgrow hat hlt; obtain ⟨q1, q2⟩ := HQ.out _ _ hgrow; obtain ⟨z0, z1⟩ := pair_at q1; have zf := free_at q1 1))
    all_goals
      go_wp2_with fail
      go_meet
      have hgb : g ≠ b := fun e => by
        rcases hat with h | h
        · exact (HObl.out g h).1 e
        · omega
      exact ⟨g, cap, own_kept hown1 ((Kept.refl _ w1).setCell (p := fun k => k ≠ b) (by simp) _) (fun g' hg' e => hgb (by cases hg'; exact e)), set_one q1 _, (q2.mono fun _ h => h.2).setCell (fun h => h.1 rfl) _⟩
  case rest =>
  obtain ⟨g, cap, hown, hbc, hk⟩ := hcut.out
  have HK9 : Hid (Kept (fun k => k ≠ b ∧ (Value.slice ia IN ic).ownBlock ≠ some k) WX wc) := hk
  have HRf : Hid (Rf base w wc) := by
    refine ⟨(HBX.out.mono hbase).trans (hk.below hbw fun j hj => ⟨by have := HAt.out.1; omega, fun e => by have := (HObl.out j e).2.2.1; omega⟩), (Ko.of_below HBX.out).trans (Ko.of_kept hk fun j o ho hp => ⟨fun e => ?_, fun e => ?_⟩)⟩
    · subst e
      rw [HP1X.out] at ho
      cases ho
      exact hp.2 rfl
    · obtain ⟨cur, hc⟩ := (HObl.out j e).2.2.2.2
      rw [hc] at ho
      cases ho
      exact hp.1 rfl
  have HRp : Hid (Rpt base b m nq bs wc (items ++ [⟨PS, 1, mode, time, BY⟩])) := by
    refine ⟨⟨_, hbc, ?_⟩, (HMp.out.below HBX.out).obj fun es ck ho => (hk.block m ((HMp.out.below HBX.out).lt) ⟨fun e => ?_, fun e => (HObl.out m e).2.2.2.1 rfl⟩).trans ho, HAt.out.1, HAt.out.2, by rw [List.length_append, ← HIN.out]; simp; omega⟩
    · rw [List.length_append, ← HIN.out, rowR_more]
      exact hown
    · subst e
      rw [HP1X.out] at ho
      cases ho
  have HItx : Hid (its (items ++ [⟨PS, 1, mode, time, BY⟩]) = its items ++ [Wk.item path (Nod.nd ⟨name, 1, mode, time, size, parts, link⟩) BY.data.toList]) := by
    show _ = _
    rw [← HItm.out BY]
    simp [its]
  have hn9 : wc.heap[w.heap.size]? = some (.cells #[.string name, .int .i64 1, .int .i64 mode, .int .i64 time, .int .i64 size, .slice pa PN pc, .string link] 104 (0, 0)) := by
    have h1 := HNX.out
    have h2 := hk.block w.heap.size (Array.getElem?_eq_some_iff.1 h1).1 ⟨fun e => by omega, fun e => by
      obtain ⟨cur, hc⟩ := (HObl.out _ e).2.2.2.2
      rw [h1] at hc
      cases hc⟩
    exact h2.trans h1
  obtain ⟨n0, n1, n2, n3, n4, n5, n6, nlt⟩ := sev_at hn9
  clear hown hbc hk hcut HQ hrow u0 u1 u2 u3 u4 c0 c1 hp2X hn9
  have HRe : Hid (R = (its items ++ [Wk.item path (Nod.nd ⟨name, 1, mode, time, size, parts, link⟩) BY.data.toList], 0)) := by
    show _ = _
    rw [HR.out, HBY.out]
    unfold Wk.rstep
    rw [if_neg hdp, if_neg (by rw [HIl.out, ← HIN.out]; omega)]
    have e : (if (Nod.nd ⟨name, 1, mode, time, size, parts, link⟩).kind = 1 then Wk.reapFile (pl bs) (Nod.nd ⟨name, 1, mode, time, size, parts, link⟩).size (Nod.nd ⟨name, 1, mode, time, size, parts, link⟩).parts [] else ((Nod.nd ⟨name, 1, mode, time, size, parts, link⟩).link, 0)) = F := by rw [HF.out]; rfl
    rw [e, if_neg (fun q => q hE), if_neg (by show ¬ (1 : Int) = 2; decide)]
  clear HR
  go_wp2_with fail
  go_ret
  exact ⟨by rw [HRe.out]; rfl, HRf.out, fun _ => ⟨_, by rw [HItx.out, HRe.out], HRp.out⟩⟩
set_option maxHeartbeats 4000000 in
set_option maxRecDepth 10000 in
theorem rnode_dir (base b m nq : Nat) (bs : List Blb) (_ : Sm bs) (k : Nat) (hd : 1 ≤ k → RDirOk base b m nq bs k) (path : List Name) (hpk : path.length + (k + 1) = 9) (hps : ∀ s ∈ path, (47 : UInt8) ∉ s ∧ s.length ≤ 1024) (n : Nod) (pv : Value) (hnk : Nk n) (hkd : n.kind = 2) (items : List Im) (w : World)
    (h : Rpt base b m nq bs w items) (hng : NdG w n (ndC n pv)) (hT : ∀ W, Below base w W → Tabs W) (R : List Wk.It × Int) (hR : R = Wk.rstep (pl bs) (Wk.reapDir (pl bs) k) path n.nd (its items)) :
    Calls Tryz.prog 52 #[.pointer (some ⟨b, 0, none⟩), .agg (ndC n pv).toArray, .string (mkB (Nn.tails (path ++ [n.name.data.toList])))] w fun e w' => e = .returned (.int .i64 R.2) ∧ Rf base w w' ∧ (R.2 = 0 → ∃ items', its items' = R.1 ∧ Rpt base b m nq bs w' items') := by
  obtain ⟨i0, hi, hz0, hz1, hz2⟩ := info_parts info_itm
  obtain ⟨PS, hPS⟩ : ∃ PS, PS = mkB (Nn.tails (path ++ [n.name.data.toList])) := ⟨_, rfl⟩
  have hns : ∀ s ∈ path ++ [n.name.data.toList], (47 : UInt8) ∉ s ∧ s.length ≤ 1024 := fun s hs => by
    rcases List.mem_append.1 hs with q | q
    · exact hps s q
    · rw [List.mem_singleton.1 q]; exact hnk.name
  have hcnt : ∀ W, Calls Tryz.prog 68 #[.string PS, .string ⟨#[47]⟩] W fun e w' => e = .returned (.int .i64 ((path.length + 1 : Nat) : Int)) ∧ w' = W := fun W => by
    have := Tryz.strings_Count_one PS 47 W
    have e : Lib.countByte PS.data.toList 47 = path.length + 1 := by
      rw [hPS]
      show (Nn.tails (path ++ [n.name.data.toList])).count 47 = _
      rw [Wk.count_tails _ fun s hs => (hns s hs).1]
      simp
    rw [e] at this
    exact this
  have HItm : Hid (∀ (by_ : ByteArray), (⟨PS, n.kind, n.mode, n.time, by_⟩ : Im).it = Wk.item path n.nd by_.data.toList) := fun by_ => by
    show Wk.It.mk _ _ _ _ _ = Wk.It.mk _ _ _ _ _
    have e : PS.data.toList = Nn.joinB (path ++ [n.nd.name]) := by
      rw [Wk.joinB_tails (by simp), hPS]; rfl
    rw [e]; rfl
  have HPS : Hid (PS = mkB (Nn.tails (path ++ [n.name.data.toList]))) := hPS
  rw [← hPS]
  obtain ⟨⟨iv, p1, p2⟩, hmp, ha, hm, hfew⟩ := h
  have hblt : b < w.heap.size := (Array.getElem?_eq_some_iff.1 p1).1
  have hbase : base ≤ w.heap.size := by omega
  have hcells := pair_at p1
  obtain ⟨ia, ic, rfl⟩ := own_form p2
  have HIl : Hid ((its items).length = items.length) := its_length items
  have HR : Hid (R = Wk.rstep (pl bs) (Wk.reapDir (pl bs) k) path n.nd (its items)) := hR
  have HP1 : Hid (w.heap[b]? = some (.cells #[.map (some m), .slice ia items.length ic] 87 (0, 0))) := p1
  have HP2 : Hid (w.ownsRow base 27 5 (.slice ia items.length ic) items.length (rowR imC items)) := p2
  have HMp : Hid (Mp w m nq (mpB bs)) := hmp
  have HNg : Hid (NdG w n (ndC n pv)) := hng
  have HT : Hid (∀ W, Below base w W → Tabs W) := hT
  have HAt : Hid (base ≤ b ∧ base ≤ m) := ⟨ha, hm⟩
  obtain ⟨pv0, epv, hrx, hty, hno⟩ := hng
  obtain ⟨W1, hW1⟩ : ∃ W1, W1 = w.alloc (.cells (ndC n pv).toArray 104) := ⟨_, rfl⟩
  have hB1 : Below w.heap.size w W1 := by rw [hW1]; exact (Below.refl _ w).alloc (Nat.le_refl _) _
  have HB1 : Hid (Below w.heap.size w W1) := hB1
  have HM : Hid (W1.heap[w.heap.size]? = some (.cells (ndC n pv).toArray 104 (0, 0))) := by rw [hW1]; exact heap_alloc_new w _
  have HS1 : Hid (W1.heap.size = w.heap.size + 1) := by show _ = _; rw [hW1, World.size_alloc]
  have hb1 : W1.heap[b]? = some (.cells #[.map (some m), .slice ia items.length ic] 87 (0, 0)) := (hB1.block b hblt).trans p1
  obtain ⟨c0, c1⟩ := pair_at hb1
  skip
  obtain ⟨name, kind, mode, time, size, parts, link⟩ := n
  dsimp only [ndC] at *
  subst hkd
  obtain ⟨pa, pc, epc, hpc1, hpc2⟩ := hrx.slice
  cases epv
  subst epc
  obtain ⟨n0, n1, n2, n3, n4, n5, n6, nlt⟩ := sev_at HM.out
  have HK : Hid (Nk ⟨name, 2, mode, time, size, parts, link⟩) := hnk
  obtain ⟨PN, hPN⟩ : ∃ PN, PN = parts.length := ⟨_, rfl⟩
  have HPN : Hid (PN = parts.length) := hPN
  obtain ⟨IN, hIN⟩ : ∃ IN, IN = items.length := ⟨_, rfl⟩
  have HIN : Hid (IN = items.length) := hIN
  rw [← hIN] at HP1 c1 hfew hb1
  rw [← hPN] at n5 hW1 HM ⊢
  clear hPS hR hcells p1 hmp hT ha hm hrx hty hno hnk hB1 hPN hIN hpc1 hpc2 hb1
  go_enter Tryz.func52, Tryz.ntmps52
  go_upto_region 1 with fail
  rw [← hW1]
  clear hW1
  go_wp2_with fail
  refine (hcnt _).mono ?_
  rintro e u ⟨rfl, hu⟩
  obtain rfl := hu.symm
  clear hcnt hu
  by_cases hdp : 8 ≤ path.length
  · have HRe : Hid (R = ([], 14)) := by show _ = _; rw [HR.out]; unfold Wk.rstep; rw [if_pos hdp]
    have hgt : ((path.length + 1 : Nat) : Int) > 8 := by omega
    generalize path.length = PL at *
    clear HR
    go_wp2_with fail
    go_ret
    exact ⟨by rw [HRe.out]; rfl, Rf.of_below HB1.out hbase, fun e => by rw [HRe.out] at e; cases e⟩
  have hgt : ¬ ((path.length + 1 : Nat) : Int) > 8 := by omega
  by_cases hfl : IN = 100
  · have HRe : Hid (R = ([], 2)) := by show _ = _; rw [HR.out]; unfold Wk.rstep; rw [if_neg hdp, if_pos (by rw [HIl.out, ← HIN.out, hfl]; exact Nat.le_refl _)]
    generalize path.length = PL at *
    subst hfl
    clear HR
    go_wp2_with fail
    go_ret
    exact ⟨by rw [HRe.out]; rfl, Rf.of_below HB1.out hbase, fun e => by rw [HRe.out] at e; cases e⟩
  have hne1 : (((IN : Nat) : Int) == 100) = false := by rw [beq_eq_false_iff_ne]; omega
  obtain ⟨XI, hXI⟩ : ∃ XI, XI = W1.heap.size := ⟨_, rfl⟩
  have HXI : Hid (XI = w.heap.size + 1) := by show _ = _; rw [hXI]; exact HS1.out
  obtain ⟨WX, hWX⟩ : ∃ WX, WX = W1.alloc (.cells #[.string PS, .int .i64 2, .int .i64 mode, .int .i64 time, .string ⟨#[]⟩] 27) := ⟨_, rfl⟩
  have hBX : Below W1.heap.size W1 WX := by rw [hWX]; exact (Below.refl _ W1).alloc (Nat.le_refl _) _
  have HBX : Hid (Below w.heap.size w WX) := HB1.out.trans (hBX.mono HB1.out.size)
  have HNX : Hid (WX.heap[w.heap.size]? = some (.cells #[.string name, .int .i64 2, .int .i64 mode, .int .i64 time, .int .i64 size, .slice pa PN pc, .string link] 104 (0, 0))) := (hBX.block _ (Array.getElem?_eq_some_iff.1 HM.out).1).trans HM.out
  have hitX : WX.heap[W1.heap.size]? = some (.cells #[.string PS, .int .i64 2, .int .i64 mode, .int .i64 time, .string ⟨#[]⟩] 27 (0, 0)) := by rw [hWX]; exact heap_alloc_new W1 _
  obtain ⟨PL, hPL⟩ : ∃ PL, PL = path.length := ⟨_, rfl⟩
  have HPL : Hid (PL = path.length) := hPL
  rw [← hPL] at hgt ⊢
  clear hPL
  go_wp2_with fail
  go_upto_region 14 with fail
  rw [← hWX]
  clear hWX hBX n0 n1 n2 n3 n4 n5 n6 nlt c0 c1
  rw [← hXI] at hitX ⊢
  clear hXI
  obtain ⟨BY, hBY⟩ : ∃ BY : ByteArray, BY = ⟨#[]⟩ := ⟨_, rfl⟩
  have HBY : Hid (BY = ⟨#[]⟩) := hBY
  rw [← hBY] at hitX
  clear hBY
  have HITX : Hid (WX.heap[XI]? = some (.cells #[.string PS, .int .i64 2, .int .i64 mode, .int .i64 time, .string BY] 27 (0, 0))) := hitX
  clear hitX
  have hp2X : WX.ownsRow base 27 5 (.slice ia IN ic) IN (rowR imC items) := by rw [HIN.out]; exact own_below HP2.out HBX.out
  have HP2X : Hid (WX.ownsRow base 27 5 (.slice ia IN ic) IN (rowR imC items)) := hp2X
  have HP1X : Hid (WX.heap[b]? = some (.cells #[.map (some m), .slice ia IN ic] 87 (0, 0))) := (HBX.out.block b hblt).trans HP1.out
  obtain ⟨u0, u1, u2, u3, u4, ult⟩ := five_at HITX.out
  obtain ⟨c0, c1⟩ := pair_at HP1X.out
  have HObl : Hid (∀ g, (Value.slice ia IN ic).ownBlock = some g → g ≠ b ∧ g < WX.heap.size ∧ base ≤ g ∧ g ≠ m ∧ ∃ cur, WX.heap[g]? = some (.cells cur 27 (0, 0))) := fun g hg => by
    obtain ⟨cur, hc, h2, h3⟩ := own_block HP2X.out hg
    refine ⟨fun e => ?_, h3, h2, fun e => ?_, cur, hc⟩
    · subst e; rw [HP1X.out] at hc; cases hc
    · subst e
      obtain ⟨es, ck, hk⟩ := (HMp.out.below HBX.out).isMap
      rw [hk] at hc
      cases hc
  have hrow : ∀ o2, ((WX.alloc o2).drew).ownsRow base 27 5 (.slice ia IN ic) IN (rowR imC items) := fun o2 => (hp2X.alloc o2).drew
  have HQ : Hid (∀ o2 w1, ((WX.alloc o2).drew).grownBy w1 (Value.slice ia IN ic).ownBlock → w1.heap[b]? = some (.cells #[.map (some m), .slice ia IN ic] 87 (0, 0)) ∧ Kept (fun k => (Value.slice ia IN ic).ownBlock ≠ some k) WX w1) := by
    intro o2 w1 hg
    have hk : Kept (fun k => (Value.slice ia IN ic).ownBlock ≠ some k) WX w1 := Kept.grown ((Kept.refl _ WX).alloc o2).drew hg fun k hk hp => hp hk
    exact ⟨hk.obj (fun e => (HObl.out _ e).1 rfl) HP1X.out, hk⟩
  have hbX : b < WX.heap.size := (Array.getElem?_eq_some_iff.1 HP1X.out).1
  have hbw : base ≤ WX.heap.size := Nat.le_trans hbase HBX.out.size
  go_cut [] from 45 (fun wx => Hid (∃ g cap, wx.ownsRow base 27 5 (.slice (some ⟨g, 0, none⟩) (IN + 1) cap) (IN + 1) (rowR imC items ++ [.string PS, .int .i64 2, .int .i64 mode, .int .i64 time, .string BY]) ∧
    wx.heap[b]? = some (.cells #[.map (some m), .slice (some ⟨g, 0, none⟩) (IN + 1) cap] 87 (0, 0)) ∧ Kept (fun k => k ≠ b ∧ (Value.slice ia IN ic).ownBlock ≠ some k) WX wx))
  case first =>
    go_region_law ((refine step_append_lies _ (by rfl) (.tmp 49) (.tmp 51) 22 (by rfl) base 27 i0 (.agg #[.string ⟨#[]⟩, .int .i64 0, .int .i64 0, .int .i64 0, .string ⟨#[]⟩]) 5 56 Tryz.underlying22 hi hz0 hz1 hz2 rfl (by decide) (.slice ia IN ic) IN (rowR imC items) (by rfl) (hrow _) ⟨WX.heap.size, 0, none⟩ 1 1 [.string PS, .int .i64 2, .int .i64 mode, .int .i64 time, .string BY] (by rfl) (by rfl) (itm_at (by simp) (by simp) (by simp) (by simp) (by simp)) (by simp [Value.oneCell']) (by decide) (by unfold maxLen; omega) (by omega) (by simp; omega) (WX.heap.size + 1) (by simp) ?_; intro g cap w1 hown1 hgrow hat hlt; obtain ⟨q1, q2⟩ := HQ.out _ _ hgrow; obtain ⟨z0, z1⟩ := pair_at q1; have zf := free_at q1 1))
    all_goals
      go_wp2_with fail
      go_meet
      have hgb : g ≠ b := fun e => by
        rcases hat with h | h
        · exact (HObl.out g h).1 e
        · omega
      exact ⟨g, cap, own_kept hown1 ((Kept.refl _ w1).setCell (p := fun k => k ≠ b) (by simp) _) (fun g' hg' e => hgb (by cases hg'; exact e)), set_one q1 _, (q2.mono fun _ h => h.2).setCell (fun h => h.1 rfl) _⟩
  case rest =>
  obtain ⟨g, cap, hown, hbc, hk⟩ := hcut.out
  have HK9 : Hid (Kept (fun k => k ≠ b ∧ (Value.slice ia IN ic).ownBlock ≠ some k) WX wc) := hk
  have HRf : Hid (Rf base w wc) := by
    refine ⟨(HBX.out.mono hbase).trans (hk.below hbw fun j hj => ⟨by have := HAt.out.1; omega, fun e => by have := (HObl.out j e).2.2.1; omega⟩), (Ko.of_below HBX.out).trans (Ko.of_kept hk fun j o ho hp => ⟨fun e => ?_, fun e => ?_⟩)⟩
    · subst e
      rw [HP1X.out] at ho
      cases ho
      exact hp.2 rfl
    · obtain ⟨cur, hc⟩ := (HObl.out j e).2.2.2.2
      rw [hc] at ho
      cases ho
      exact hp.1 rfl
  have HRp : Hid (Rpt base b m nq bs wc (items ++ [⟨PS, 2, mode, time, BY⟩])) := by
    refine ⟨⟨_, hbc, ?_⟩, (HMp.out.below HBX.out).obj fun es ck ho => (hk.block m ((HMp.out.below HBX.out).lt) ⟨fun e => ?_, fun e => (HObl.out m e).2.2.2.1 rfl⟩).trans ho, HAt.out.1, HAt.out.2, by rw [List.length_append, ← HIN.out]; simp; omega⟩
    · rw [List.length_append, ← HIN.out, rowR_more]
      exact hown
    · subst e
      rw [HP1X.out] at ho
      cases ho
  have HItx : Hid (its (items ++ [⟨PS, 2, mode, time, BY⟩]) = its items ++ [Wk.item path (Nod.nd ⟨name, 2, mode, time, size, parts, link⟩) BY.data.toList]) := by
    show _ = _
    rw [← HItm.out BY]
    simp [its]
  have hn9 : wc.heap[w.heap.size]? = some (.cells #[.string name, .int .i64 2, .int .i64 mode, .int .i64 time, .int .i64 size, .slice pa PN pc, .string link] 104 (0, 0)) := by
    have h1 := HNX.out
    have h2 := hk.block w.heap.size (Array.getElem?_eq_some_iff.1 h1).1 ⟨fun e => by omega, fun e => by
      obtain ⟨cur, hc⟩ := (HObl.out _ e).2.2.2.2
      rw [h1] at hc
      cases hc⟩
    exact h2.trans h1
  obtain ⟨n0, n1, n2, n3, n4, n5, n6, nlt⟩ := sev_at hn9
  clear hown hbc hk hcut HQ hrow u0 u1 u2 u3 u4 c0 c1 hp2X hn9
  have hp1 : parts.length = 1 := (HK.out.dir rfl).1
  have hlk : link.data.toList = [] := (HK.out.dir rfl).2
  obtain ⟨idp, rfl⟩ : ∃ idp, parts = [idp] := by
    match parts, hp1 with
    | [x], _ => exact ⟨x, rfl⟩
  have HRe : Hid (R = Wk.reapDir (pl bs) k idp (path ++ [name.data.toList]) (its items ++ [Wk.item path (Nod.nd ⟨name, 2, mode, time, size, [idp], link⟩) BY.data.toList])) := by
    show _ = _
    rw [HR.out, HBY.out]
    unfold Wk.rstep
    rw [if_neg hdp, if_neg (by rw [HIl.out, ← HIN.out]; omega)]
    have e : (if (Nod.nd ⟨name, 2, mode, time, size, [idp], link⟩).kind = 1 then Wk.reapFile (pl bs) (Nod.nd ⟨name, 2, mode, time, size, [idp], link⟩).size (Nod.nd ⟨name, 2, mode, time, size, [idp], link⟩).parts [] else ((Nod.nd ⟨name, 2, mode, time, size, [idp], link⟩).link, 0)) = ([], 0) := by
      rw [if_neg (by show ¬ (2 : Int) = 1; decide)]
      exact Prod.ext hlk rfl
    rw [e, if_neg (fun q => q rfl), if_pos (show (Nod.nd ⟨name, 2, mode, time, size, [idp], link⟩).kind = 2 from rfl)]
    rfl
  have hng9 : NdG wc ⟨name, 2, mode, time, size, [idp], link⟩ [.string name, .int .i64 2, .int .i64 mode, .int .i64 time, .int .i64 size, .slice pa [idp].length pc, .string link] :=
    HNg.out.keep (Nat.le_trans HBX.out.size HK9.out.size) fun q cur fr ho => by
      have h1 := (HBX.out.block q (Array.getElem?_eq_some_iff.1 ho).1).trans ho
      exact (HK9.out.block q (Array.getElem?_eq_some_iff.1 h1).1 ⟨fun e => (by subst e; rw [HP1X.out] at h1; cases h1), fun e => by
        obtain ⟨cur', hc⟩ := (HObl.out _ e).2.2.2.2
        rw [h1] at hc
        cases hc⟩).trans h1
  obtain ⟨pv9, e9, hr9, _, ho9⟩ := hng9
  cases e9
  have hid8 := ho9.ids idp List.mem_cons_self
  obtain ⟨kb, ko, rfl, hkb, hcell⟩ := hr9.get 0 idp rfl
  have hpnn : PN = 1 := HPN.out
  subst hpnn
  have hdir := hd (by omega) (path ++ [name.data.toList]) idp _ wc (by rw [List.length_append]; simp; omega) (fun s hs => by
    rcases List.mem_append.1 hs with q | q
    · exact hps s q
    · rw [List.mem_singleton.1 q]; exact HK.out.name) hid8 HRp.out (fun W hW => HT.out W (HRf.out.low.trans hW)) R (by rw [HRe.out, HItx.out])
  rw [← HPS.out] at hdir
  obtain ⟨b0, b1, b2, b3, b4, b5, b6, b7, rfl⟩ := eight idp hid8
  obtain ⟨x0, x1, x2, x3, x4, x5, x6, x7⟩ : wc.cell? ⟨kb, ko, none⟩ = some (.int .u8 (b0.toNat : Int)) ∧ wc.cell? ⟨kb, ko + 1, none⟩ = some (.int .u8 (b1.toNat : Int)) ∧ wc.cell? ⟨kb, ko + 2, none⟩ = some (.int .u8 (b2.toNat : Int)) ∧ wc.cell? ⟨kb, ko + 3, none⟩ = some (.int .u8 (b3.toNat : Int)) ∧
      wc.cell? ⟨kb, ko + 4, none⟩ = some (.int .u8 (b4.toNat : Int)) ∧ wc.cell? ⟨kb, ko + 5, none⟩ = some (.int .u8 (b5.toNat : Int)) ∧ wc.cell? ⟨kb, ko + 6, none⟩ = some (.int .u8 (b6.toNat : Int)) ∧ wc.cell? ⟨kb, ko + 7, none⟩ = some (.int .u8 (b7.toNat : Int)) := by
    have q := fun r u hu => hcell r u hu
    simp only [Nat.zero_mul, Nat.add_zero] at q
    exact ⟨q 0 _ rfl, q 1 _ rfl, q 2 _ rfl, q 3 _ rfl, q 4 _ rfl, q 5 _ rfl, q 6 _ rfl, q 7 _ rfl⟩
  have hdir' : Calls Tryz.prog 35 #[.pointer (some ⟨b, 0, none⟩), .agg #[.int .u8 (b0.toNat : Int), .int .u8 (b1.toNat : Int), .int .u8 (b2.toNat : Int), .int .u8 (b3.toNat : Int), .int .u8 (b4.toNat : Int), .int .u8 (b5.toNat : Int), .int .u8 (b6.toNat : Int), .int .u8 (b7.toNat : Int)], .string PS] wc fun e w' => e = .returned (.int .i64 R.2) ∧ Rf base wc w' ∧ (R.2 = 0 → ∃ items', its items' = R.1 ∧ Rpt base b m nq bs w' items') := hdir
  clear hdir hr9 ho9 hcell hid8 hp1 hd HR
  go_wp2_with fail
  refine hdir'.mono ?_
  rintro e w9 ⟨rfl, f9, hz⟩
  have HZ : Hid (Rf base w w9 ∧ (R.2 = 0 → ∃ items', its items' = R.1 ∧ Rpt base b m nq bs w9 items')) := ⟨HRf.out.trans f9, hz⟩
  clear hdir' f9 hz x0 x1 x2 x3 x4 x5 x6 x7
  go_wp2_with fail
  go_ret
  exact ⟨rfl, HZ.out.1, HZ.out.2⟩
set_option maxHeartbeats 4000000 in
set_option maxRecDepth 10000 in
theorem rnode_link (base b m nq : Nat) (bs : List Blb) (_ : Sm bs) (k : Nat) (_ : 1 ≤ k → RDirOk base b m nq bs k) (path : List Name) (hpk : path.length + (k + 1) = 9) (hps : ∀ s ∈ path, (47 : UInt8) ∉ s ∧ s.length ≤ 1024) (n : Nod) (pv : Value) (hnk : Nk n) (hkd : n.kind = 3) (items : List Im) (w : World)
    (h : Rpt base b m nq bs w items) (hng : NdG w n (ndC n pv)) (hT : ∀ W, Below base w W → Tabs W) (R : List Wk.It × Int) (hR : R = Wk.rstep (pl bs) (Wk.reapDir (pl bs) k) path n.nd (its items)) :
    Calls Tryz.prog 52 #[.pointer (some ⟨b, 0, none⟩), .agg (ndC n pv).toArray, .string (mkB (Nn.tails (path ++ [n.name.data.toList])))] w fun e w' => e = .returned (.int .i64 R.2) ∧ Rf base w w' ∧ (R.2 = 0 → ∃ items', its items' = R.1 ∧ Rpt base b m nq bs w' items') := by
  obtain ⟨i0, hi, hz0, hz1, hz2⟩ := info_parts info_itm
  obtain ⟨PS, hPS⟩ : ∃ PS, PS = mkB (Nn.tails (path ++ [n.name.data.toList])) := ⟨_, rfl⟩
  have hns : ∀ s ∈ path ++ [n.name.data.toList], (47 : UInt8) ∉ s ∧ s.length ≤ 1024 := fun s hs => by
    rcases List.mem_append.1 hs with q | q
    · exact hps s q
    · rw [List.mem_singleton.1 q]; exact hnk.name
  have hcnt : ∀ W, Calls Tryz.prog 68 #[.string PS, .string ⟨#[47]⟩] W fun e w' => e = .returned (.int .i64 ((path.length + 1 : Nat) : Int)) ∧ w' = W := fun W => by
    have := Tryz.strings_Count_one PS 47 W
    have e : Lib.countByte PS.data.toList 47 = path.length + 1 := by
      rw [hPS]
      show (Nn.tails (path ++ [n.name.data.toList])).count 47 = _
      rw [Wk.count_tails _ fun s hs => (hns s hs).1]
      simp
    rw [e] at this
    exact this
  have HItm : Hid (∀ (by_ : ByteArray), (⟨PS, n.kind, n.mode, n.time, by_⟩ : Im).it = Wk.item path n.nd by_.data.toList) := fun by_ => by
    show Wk.It.mk _ _ _ _ _ = Wk.It.mk _ _ _ _ _
    have e : PS.data.toList = Nn.joinB (path ++ [n.nd.name]) := by
      rw [Wk.joinB_tails (by simp), hPS]; rfl
    rw [e]; rfl
  have HPS : Hid (PS = mkB (Nn.tails (path ++ [n.name.data.toList]))) := hPS
  rw [← hPS]
  obtain ⟨⟨iv, p1, p2⟩, hmp, ha, hm, hfew⟩ := h
  have hblt : b < w.heap.size := (Array.getElem?_eq_some_iff.1 p1).1
  have hbase : base ≤ w.heap.size := by omega
  have hcells := pair_at p1
  obtain ⟨ia, ic, rfl⟩ := own_form p2
  have HIl : Hid ((its items).length = items.length) := its_length items
  have HR : Hid (R = Wk.rstep (pl bs) (Wk.reapDir (pl bs) k) path n.nd (its items)) := hR
  have HP1 : Hid (w.heap[b]? = some (.cells #[.map (some m), .slice ia items.length ic] 87 (0, 0))) := p1
  have HP2 : Hid (w.ownsRow base 27 5 (.slice ia items.length ic) items.length (rowR imC items)) := p2
  have HMp : Hid (Mp w m nq (mpB bs)) := hmp
  have HNg : Hid (NdG w n (ndC n pv)) := hng
  have HT : Hid (∀ W, Below base w W → Tabs W) := hT
  have HAt : Hid (base ≤ b ∧ base ≤ m) := ⟨ha, hm⟩
  obtain ⟨pv0, epv, hrx, hty, hno⟩ := hng
  obtain ⟨W1, hW1⟩ : ∃ W1, W1 = w.alloc (.cells (ndC n pv).toArray 104) := ⟨_, rfl⟩
  have hB1 : Below w.heap.size w W1 := by rw [hW1]; exact (Below.refl _ w).alloc (Nat.le_refl _) _
  have HB1 : Hid (Below w.heap.size w W1) := hB1
  have HM : Hid (W1.heap[w.heap.size]? = some (.cells (ndC n pv).toArray 104 (0, 0))) := by rw [hW1]; exact heap_alloc_new w _
  have HS1 : Hid (W1.heap.size = w.heap.size + 1) := by show _ = _; rw [hW1, World.size_alloc]
  have hb1 : W1.heap[b]? = some (.cells #[.map (some m), .slice ia items.length ic] 87 (0, 0)) := (hB1.block b hblt).trans p1
  obtain ⟨c0, c1⟩ := pair_at hb1
  skip
  obtain ⟨name, kind, mode, time, size, parts, link⟩ := n
  dsimp only [ndC] at *
  subst hkd
  obtain ⟨pa, pc, epc, hpc1, hpc2⟩ := hrx.slice
  cases epv
  subst epc
  obtain ⟨n0, n1, n2, n3, n4, n5, n6, nlt⟩ := sev_at HM.out
  have HK : Hid (Nk ⟨name, 3, mode, time, size, parts, link⟩) := hnk
  obtain ⟨PN, hPN⟩ : ∃ PN, PN = parts.length := ⟨_, rfl⟩
  have HPN : Hid (PN = parts.length) := hPN
  obtain ⟨IN, hIN⟩ : ∃ IN, IN = items.length := ⟨_, rfl⟩
  have HIN : Hid (IN = items.length) := hIN
  rw [← hIN] at HP1 c1 hfew hb1
  rw [← hPN] at n5 hW1 HM ⊢
  clear hPS hR hcells p1 hmp hT ha hm hrx hty hno hnk hB1 hPN hIN hpc1 hpc2 hb1
  go_enter Tryz.func52, Tryz.ntmps52
  go_upto_region 1 with fail
  rw [← hW1]
  clear hW1
  go_wp2_with fail
  refine (hcnt _).mono ?_
  rintro e u ⟨rfl, hu⟩
  obtain rfl := hu.symm
  clear hcnt hu
  by_cases hdp : 8 ≤ path.length
  · have HRe : Hid (R = ([], 14)) := by show _ = _; rw [HR.out]; unfold Wk.rstep; rw [if_pos hdp]
    have hgt : ((path.length + 1 : Nat) : Int) > 8 := by omega
    generalize path.length = PL at *
    clear HR
    go_wp2_with fail
    go_ret
    exact ⟨by rw [HRe.out]; rfl, Rf.of_below HB1.out hbase, fun e => by rw [HRe.out] at e; cases e⟩
  have hgt : ¬ ((path.length + 1 : Nat) : Int) > 8 := by omega
  by_cases hfl : IN = 100
  · have HRe : Hid (R = ([], 2)) := by show _ = _; rw [HR.out]; unfold Wk.rstep; rw [if_neg hdp, if_pos (by rw [HIl.out, ← HIN.out, hfl]; exact Nat.le_refl _)]
    generalize path.length = PL at *
    subst hfl
    clear HR
    go_wp2_with fail
    go_ret
    exact ⟨by rw [HRe.out]; rfl, Rf.of_below HB1.out hbase, fun e => by rw [HRe.out] at e; cases e⟩
  have hne1 : (((IN : Nat) : Int) == 100) = false := by rw [beq_eq_false_iff_ne]; omega
  obtain ⟨XI, hXI⟩ : ∃ XI, XI = W1.heap.size := ⟨_, rfl⟩
  have HXI : Hid (XI = w.heap.size + 1) := by show _ = _; rw [hXI]; exact HS1.out
  obtain ⟨WX, hWX⟩ : ∃ WX, WX = W1.alloc (.cells #[.string PS, .int .i64 3, .int .i64 mode, .int .i64 time, .string link] 27) := ⟨_, rfl⟩
  have hBX : Below W1.heap.size W1 WX := by rw [hWX]; exact (Below.refl _ W1).alloc (Nat.le_refl _) _
  have HBX : Hid (Below w.heap.size w WX) := HB1.out.trans (hBX.mono HB1.out.size)
  have HNX : Hid (WX.heap[w.heap.size]? = some (.cells #[.string name, .int .i64 3, .int .i64 mode, .int .i64 time, .int .i64 size, .slice pa PN pc, .string link] 104 (0, 0))) := (hBX.block _ (Array.getElem?_eq_some_iff.1 HM.out).1).trans HM.out
  have hitX : WX.heap[W1.heap.size]? = some (.cells #[.string PS, .int .i64 3, .int .i64 mode, .int .i64 time, .string link] 27 (0, 0)) := by rw [hWX]; exact heap_alloc_new W1 _
  obtain ⟨PL, hPL⟩ : ∃ PL, PL = path.length := ⟨_, rfl⟩
  have HPL : Hid (PL = path.length) := hPL
  rw [← hPL] at hgt ⊢
  clear hPL
  go_wp2_with fail
  go_upto_region 14 with fail
  rw [← hWX]
  clear hWX hBX n0 n1 n2 n3 n4 n5 n6 nlt c0 c1
  rw [← hXI] at hitX ⊢
  clear hXI
  obtain ⟨BY, hBY⟩ : ∃ BY : ByteArray, BY = link := ⟨_, rfl⟩
  have HBY : Hid (BY = link) := hBY
  rw [← hBY] at hitX
  clear hBY
  have HITX : Hid (WX.heap[XI]? = some (.cells #[.string PS, .int .i64 3, .int .i64 mode, .int .i64 time, .string BY] 27 (0, 0))) := hitX
  clear hitX
  have hp2X : WX.ownsRow base 27 5 (.slice ia IN ic) IN (rowR imC items) := by rw [HIN.out]; exact own_below HP2.out HBX.out
  have HP2X : Hid (WX.ownsRow base 27 5 (.slice ia IN ic) IN (rowR imC items)) := hp2X
  have HP1X : Hid (WX.heap[b]? = some (.cells #[.map (some m), .slice ia IN ic] 87 (0, 0))) := (HBX.out.block b hblt).trans HP1.out
  obtain ⟨u0, u1, u2, u3, u4, ult⟩ := five_at HITX.out
  obtain ⟨c0, c1⟩ := pair_at HP1X.out
  have HObl : Hid (∀ g, (Value.slice ia IN ic).ownBlock = some g → g ≠ b ∧ g < WX.heap.size ∧ base ≤ g ∧ g ≠ m ∧ ∃ cur, WX.heap[g]? = some (.cells cur 27 (0, 0))) := fun g hg => by
    obtain ⟨cur, hc, h2, h3⟩ := own_block HP2X.out hg
    refine ⟨fun e => ?_, h3, h2, fun e => ?_, cur, hc⟩
    · subst e; rw [HP1X.out] at hc; cases hc
    · subst e
      obtain ⟨es, ck, hk⟩ := (HMp.out.below HBX.out).isMap
      rw [hk] at hc
      cases hc
  have hrow : ∀ o2, ((WX.alloc o2).drew).ownsRow base 27 5 (.slice ia IN ic) IN (rowR imC items) := fun o2 => (hp2X.alloc o2).drew
  have HQ : Hid (∀ o2 w1, ((WX.alloc o2).drew).grownBy w1 (Value.slice ia IN ic).ownBlock → w1.heap[b]? = some (.cells #[.map (some m), .slice ia IN ic] 87 (0, 0)) ∧ Kept (fun k => (Value.slice ia IN ic).ownBlock ≠ some k) WX w1) := by
    intro o2 w1 hg
    have hk : Kept (fun k => (Value.slice ia IN ic).ownBlock ≠ some k) WX w1 := Kept.grown ((Kept.refl _ WX).alloc o2).drew hg fun k hk hp => hp hk
    exact ⟨hk.obj (fun e => (HObl.out _ e).1 rfl) HP1X.out, hk⟩
  have hbX : b < WX.heap.size := (Array.getElem?_eq_some_iff.1 HP1X.out).1
  have hbw : base ≤ WX.heap.size := Nat.le_trans hbase HBX.out.size
  go_cut [] from 45 (fun wx => Hid (∃ g cap, wx.ownsRow base 27 5 (.slice (some ⟨g, 0, none⟩) (IN + 1) cap) (IN + 1) (rowR imC items ++ [.string PS, .int .i64 3, .int .i64 mode, .int .i64 time, .string BY]) ∧
    wx.heap[b]? = some (.cells #[.map (some m), .slice (some ⟨g, 0, none⟩) (IN + 1) cap] 87 (0, 0)) ∧ Kept (fun k => k ≠ b ∧ (Value.slice ia IN ic).ownBlock ≠ some k) WX wx))
  case first =>
    go_region_law ((refine step_append_lies _ (by rfl) (.tmp 49) (.tmp 51) 22 (by rfl) base 27 i0 (.agg #[.string ⟨#[]⟩, .int .i64 0, .int .i64 0, .int .i64 0, .string ⟨#[]⟩]) 5 56 Tryz.underlying22 hi hz0 hz1 hz2 rfl (by decide) (.slice ia IN ic) IN (rowR imC items) (by rfl) (hrow _) ⟨WX.heap.size, 0, none⟩ 1 1 [.string PS, .int .i64 3, .int .i64 mode, .int .i64 time, .string BY] (by rfl) (by rfl) (itm_at (by simp) (by simp) (by simp) (by simp) (by simp)) (by simp [Value.oneCell']) (by decide) (by unfold maxLen; omega) (by omega) (by simp; omega) (WX.heap.size + 1) (by simp) ?_; intro g cap w1 hown1 hgrow hat hlt; obtain ⟨q1, q2⟩ := HQ.out _ _ hgrow; obtain ⟨z0, z1⟩ := pair_at q1; have zf := free_at q1 1))
    all_goals
      go_wp2_with fail
      go_meet
      have hgb : g ≠ b := fun e => by
        rcases hat with h | h
        · exact (HObl.out g h).1 e
        · omega
      exact ⟨g, cap, own_kept hown1 ((Kept.refl _ w1).setCell (p := fun k => k ≠ b) (by simp) _) (fun g' hg' e => hgb (by cases hg'; exact e)), set_one q1 _, (q2.mono fun _ h => h.2).setCell (fun h => h.1 rfl) _⟩
  case rest =>
  obtain ⟨g, cap, hown, hbc, hk⟩ := hcut.out
  have HK9 : Hid (Kept (fun k => k ≠ b ∧ (Value.slice ia IN ic).ownBlock ≠ some k) WX wc) := hk
  have HRf : Hid (Rf base w wc) := by
    refine ⟨(HBX.out.mono hbase).trans (hk.below hbw fun j hj => ⟨by have := HAt.out.1; omega, fun e => by have := (HObl.out j e).2.2.1; omega⟩), (Ko.of_below HBX.out).trans (Ko.of_kept hk fun j o ho hp => ⟨fun e => ?_, fun e => ?_⟩)⟩
    · subst e
      rw [HP1X.out] at ho
      cases ho
      exact hp.2 rfl
    · obtain ⟨cur, hc⟩ := (HObl.out j e).2.2.2.2
      rw [hc] at ho
      cases ho
      exact hp.1 rfl
  have HRp : Hid (Rpt base b m nq bs wc (items ++ [⟨PS, 3, mode, time, BY⟩])) := by
    refine ⟨⟨_, hbc, ?_⟩, (HMp.out.below HBX.out).obj fun es ck ho => (hk.block m ((HMp.out.below HBX.out).lt) ⟨fun e => ?_, fun e => (HObl.out m e).2.2.2.1 rfl⟩).trans ho, HAt.out.1, HAt.out.2, by rw [List.length_append, ← HIN.out]; simp; omega⟩
    · rw [List.length_append, ← HIN.out, rowR_more]
      exact hown
    · subst e
      rw [HP1X.out] at ho
      cases ho
  have HItx : Hid (its (items ++ [⟨PS, 3, mode, time, BY⟩]) = its items ++ [Wk.item path (Nod.nd ⟨name, 3, mode, time, size, parts, link⟩) BY.data.toList]) := by
    show _ = _
    rw [← HItm.out BY]
    simp [its]
  have hn9 : wc.heap[w.heap.size]? = some (.cells #[.string name, .int .i64 3, .int .i64 mode, .int .i64 time, .int .i64 size, .slice pa PN pc, .string link] 104 (0, 0)) := by
    have h1 := HNX.out
    have h2 := hk.block w.heap.size (Array.getElem?_eq_some_iff.1 h1).1 ⟨fun e => by omega, fun e => by
      obtain ⟨cur, hc⟩ := (HObl.out _ e).2.2.2.2
      rw [h1] at hc
      cases hc⟩
    exact h2.trans h1
  obtain ⟨n0, n1, n2, n3, n4, n5, n6, nlt⟩ := sev_at hn9
  clear hown hbc hk hcut HQ hrow u0 u1 u2 u3 u4 c0 c1 hp2X hn9
  have HRe : Hid (R = (its items ++ [Wk.item path (Nod.nd ⟨name, 3, mode, time, size, parts, link⟩) BY.data.toList], 0)) := by
    show _ = _
    rw [HR.out, HBY.out]
    unfold Wk.rstep
    rw [if_neg hdp, if_neg (by rw [HIl.out, ← HIN.out]; omega)]
    rfl
  clear HR
  go_wp2_with fail
  go_ret
  exact ⟨by rw [HRe.out]; rfl, HRf.out, fun _ => ⟨_, by rw [HItx.out, HRe.out], HRp.out⟩⟩
end Go.Proofs.YthpcbbkpjggjbaaGreatDoor
namespace Go.Proofs.YthpcbbkpjggjbaaGreatDoor
open Go.RowKit
set_option maxRecDepth 4000
open Nn (Name)
theorem rnode_any (base b m nq : Nat) (bs : List Blb) (hsm : Sm bs) (k : Nat) (hd : 1 ≤ k → RDirOk base b m nq bs k) (path : List Name) (hpk : path.length + (k + 1) = 9) (hps : ∀ s ∈ path, (47 : UInt8) ∉ s ∧ s.length ≤ 1024) (n : Nod) (pv : Value) (hnk : Nk n) (items : List Im) (w : World)
    (h : Rpt base b m nq bs w items) (hng : NdG w n (ndC n pv)) (hT : ∀ W, Below base w W → Tabs W) (R : List Wk.It × Int) (hR : R = Wk.rstep (pl bs) (Wk.reapDir (pl bs) k) path n.nd (its items)) :
    Calls Tryz.prog 52 #[.pointer (some ⟨b, 0, none⟩), .agg (ndC n pv).toArray, .string (mkB (Nn.tails (path ++ [n.name.data.toList])))] w fun e w' => e = .returned (.int .i64 R.2) ∧ Rf base w w' ∧ (R.2 = 0 → ∃ items', its items' = R.1 ∧ Rpt base b m nq bs w' items') := by
  rcases hnk.kind with e | e | e
  · exact rnode_file base b m nq bs hsm k hd path hpk hps n pv hnk e items w h hng hT R hR
  · exact rnode_dir base b m nq bs hsm k hd path hpk hps n pv hnk e items w h hng hT R hR
  · exact rnode_link base b m nq bs hsm k hd path hpk hps n pv hnk e items w h hng hT R hR
theorem nk_of {l : List Nod} (h : Td.check (nds l) = 0) {n : Nod} (hn : n ∈ l) : Nk n := by
  have hc := (Td.check_ok h).2 n.nd (List.mem_map_of_mem hn)
  obtain ⟨q1, _, _, q4, q5, q6, q7, q8, _⟩ := Td.nErr_ok hc
  have q7 : 1 ≤ n.kind := q7
  have q8 : n.kind ≤ 3 := q8
  refine ⟨by omega, ⟨(Nn.nm_ok q1).2.2.2, Nat.le_trans (Nn.nm_long q1) (by omega)⟩, ⟨q4, q5⟩, q6, fun e => ?_⟩
  have e' : n.nd.kind = 2 := e
  unfold Td.nErr at hc
  split at hc
  · rename_i z; exact absurd hc z
  split at hc
  · cases hc
  split at hc
  · cases hc
  split at hc
  · cases hc
  rename_i z
  by_cases h1 : n.parts.length = 1
  · by_cases h2 : n.link.data.toList = []
    · exact ⟨h1, h2⟩
    · exact absurd (.inr (.inr (.inl ⟨e', .inr h2⟩))) z
  · exact absurd (.inr (.inr (.inl ⟨e', .inl h1⟩))) z
set_option maxHeartbeats 4000000 in
set_option maxRecDepth 10000 in
theorem rdir_step (base b m nq : Nat) (bs : List Blb) (hsm : Sm bs) (k : Nat) (ih : 1 ≤ k → RDirOk base b m nq bs k) : RDirOk base b m nq bs (k + 1) := by
  intro path id items w hpk hps hid h hT R hR
  obtain ⟨b0, b1, b2, b3, b4, b5, b6, b7, rfl⟩ := eight id hid
  have eV : idV [b0, b1, b2, b3, b4, b5, b6, b7] = .agg #[.int .u8 (b0.toNat : Int), .int .u8 (b1.toNat : Int), .int .u8 (b2.toNat : Int), .int .u8 (b3.toNat : Int), .int .u8 (b4.toNat : Int), .int .u8 (b5.toNat : Int), .int .u8 (b6.toNat : Int), .int .u8 (b7.toNat : Int)] := rfl
  rw [eV]
  obtain ⟨⟨iv, p1, p2⟩, hmp, ha, hm, hfew⟩ := h
  have hblt : b < w.heap.size := (Array.getElem?_eq_some_iff.1 p1).1
  have hbase : base ≤ w.heap.size := by omega
  have HRp : Hid (Rpt base b m nq bs w items) := ⟨⟨iv, p1, p2⟩, hmp, ha, hm, hfew⟩
  have HT : Hid (∀ W, Below base w W → Tabs W) := hT
  obtain ⟨WA, hWA⟩ : ∃ WA, WA = w.alloc (.cells #[.int .u8 (b0.toNat : Int), .int .u8 (b1.toNat : Int), .int .u8 (b2.toNat : Int), .int .u8 (b3.toNat : Int), .int .u8 (b4.toNat : Int), .int .u8 (b5.toNat : Int), .int .u8 (b6.toNat : Int), .int .u8 (b7.toNat : Int)] 39) := ⟨_, rfl⟩
  have hbA : Below w.heap.size w WA := by rw [hWA]; exact (Below.refl _ w).alloc (Nat.le_refl _) _
  have HBA : Hid (Below w.heap.size w WA) := hbA
  have hIA : WA.heap[w.heap.size]? = some (.cells #[.int .u8 (b0.toNat : Int), .int .u8 (b1.toNat : Int), .int .u8 (b2.toNat : Int), .int .u8 (b3.toNat : Int), .int .u8 (b4.toNat : Int), .int .u8 (b5.toNat : Int), .int .u8 (b6.toNat : Int), .int .u8 (b7.toNat : Int)] 39 (0, 0)) := by rw [hWA]; exact heap_alloc_new w _
  have HcI : Hid (∀ W, Gw WA W → W.cell? ⟨w.heap.size, 0, none⟩ = some (.int .u8 (b0.toNat : Int)) ∧ W.cell? ⟨w.heap.size, 1, none⟩ = some (.int .u8 (b1.toNat : Int)) ∧ W.cell? ⟨w.heap.size, 2, none⟩ = some (.int .u8 (b2.toNat : Int)) ∧ W.cell? ⟨w.heap.size, 3, none⟩ = some (.int .u8 (b3.toNat : Int)) ∧ W.cell? ⟨w.heap.size, 4, none⟩ = some (.int .u8 (b4.toNat : Int)) ∧ W.cell? ⟨w.heap.size, 5, none⟩ = some (.int .u8 (b5.toNat : Int)) ∧ W.cell? ⟨w.heap.size, 6, none⟩ = some (.int .u8 (b6.toNat : Int)) ∧ W.cell? ⟨w.heap.size, 7, none⟩ = some (.int .u8 (b7.toNat : Int))) := fun W hW =>
    (I8.laid ((Below.block hW _ (Array.getElem?_eq_some_iff.1 hIA).1).trans hIA)).cells
  have HcB : Hid (∀ W, Gw WA W → W.cell? ⟨b, 0, none⟩ = some (.map (some m))) := fun W hW => by
    have h1 := (HBA.out.block _ hblt).trans p1
    have h2 := (Below.block hW _ (Array.getElem?_eq_some_iff.1 h1).1).trans h1
    exact (pair_at h2).1
  have hget : ∀ W, Gw WA W → Calls Tryz.prog 50 #[.map (some m), .agg #[.int .u8 (b0.toNat : Int), .int .u8 (b1.toNat : Int), .int .u8 (b2.toNat : Int), .int .u8 (b3.toNat : Int), .int .u8 (b4.toNat : Int), .int .u8 (b5.toNat : Int), .int .u8 (b6.toNat : Int), .int .u8 (b7.toNat : Int)], .int .i64 2] W fun e w' => e = .returned (.tuple #[.string ⟨(Wk.blobOf (pl bs) [b0, b1, b2, b3, b4, b5, b6, b7] 2).1.toArray⟩, .int .i64 (Wk.blobOf (pl bs) [b0, b1, b2, b3, b4, b5, b6, b7] 2).2]) ∧ Below W.heap.size W w' :=
    fun W hW => hget_any m nq bs [b0, b1, b2, b3, b4, b5, b6, b7] rfl 2 W ((hmp.below HBA.out).below hW)
  have hgl := blobOf_small hsm [b0, b1, b2, b3, b4, b5, b6, b7] 2
  have HRd : Hid (R = if (Wk.blobOf (pl bs) [b0, b1, b2, b3, b4, b5, b6, b7] 2).2 ≠ 0 then ([], (Wk.blobOf (pl bs) [b0, b1, b2, b3, b4, b5, b6, b7] 2).2) else if (Td.read (Wk.blobOf (pl bs) [b0, b1, b2, b3, b4, b5, b6, b7] 2).1).2 ≠ 0 then ([], (Td.read (Wk.blobOf (pl bs) [b0, b1, b2, b3, b4, b5, b6, b7] 2).1).2) else Wk.reapNodes (pl bs) (Wk.reapDir (pl bs) k) path (Td.read (Wk.blobOf (pl bs) [b0, b1, b2, b3, b4, b5, b6, b7] 2).1).1 (its items)) := hR
  rcases hG : Wk.blobOf (pl bs) [b0, b1, b2, b3, b4, b5, b6, b7] 2 with ⟨gs, GE⟩
  rw [hG] at hget HRd hgl
  dsimp only at hget HRd hgl
  obtain ⟨GS, hGS⟩ : ∃ GS : ByteArray, GS = ⟨gs.toArray⟩ := ⟨_, rfl⟩
  have hGd : gs = GS.data.toList := by rw [hGS]
  rw [← hGS] at hget
  rw [hGd] at HRd
  have hgsz : GS.size ≤ 4096 := by rw [Lib.size_eq, ← hGd]; exact hgl
  obtain ⟨PT, hPT⟩ : ∃ PT, PT = mkB (Nn.tails path) := ⟨_, rfl⟩
  have HPT : Hid (PT = mkB (Nn.tails path)) := hPT
  rw [← hPT]
  have Hmisc : Hid (path.length + (k + 1) = 9 ∧ (∀ s ∈ path, (47 : UInt8) ∉ s ∧ s.length ≤ 1024)) := ⟨hpk, hps⟩
  have HPl : Hid (PT.size ≤ 100000) := by
    show _ ≤ _
    rw [hPT, mkB, Lib.size_eq]
    have ht : ∀ l : List Name, (∀ s ∈ l, s.length ≤ 1024) → (Nn.tails l).length ≤ l.length * 1025 := fun l => by
      induction l with
      | nil => simp [Nn.tails]
      | cons s l ih =>
        intro hl
        have h1 := hl s List.mem_cons_self
        have h2 := ih fun t ht => hl t (List.mem_cons_of_mem _ ht)
        have e : Nn.tails (s :: l) = 47 :: (s ++ Nn.tails l) := rfl
        rw [e, List.length_cons, List.length_append, List.length_cons]
        omega
    have := ht path fun s hs => (hps s hs).2
    simp
    omega
  clear hR eV hmp p2 hT hG hGS hGd hgl hbA hIA hid hPT hps hpk hm ha hfew p1
  go_enter Tryz.func35, Tryz.ntmps35
  go_upto_region 1 with fail
  rw [← hWA]
  clear hWA
  by_cases hE : GE = 0
  case neg =>
    have HRe : Hid (R = ([], GE)) := by show _ = _; rw [HRd.out, if_pos hE]
    have hne : (GE != 0) = true := by rw [bne_iff_ne]; exact hE
    have HE : Hid (GE ≠ 0) := hE
    clear HRd hE
    refine wp_region_rel (G := Gw) (W0 := WA) Gw.refl Gw.trans (by kernel_rfl) (by kernel_rfl) (by kernel_rfl) (Below.refl _ WA).drew ?_
    refine .inl ⟨.pointer (some ⟨b, 0, none⟩), fun v W hW hd => step_run rfl _ W (by clear hd; go_simp) rfl (Gw.refl _), ?_⟩
    simp only [Act.put, List.setIfInBounds_toArray, List.set_cons_zero, List.set_cons_succ]
    refine .inl ⟨.pointer (some ⟨b, 0, none⟩), fun v W hW hd => step_run rfl _ W (by clear hd; go_simp) rfl (Gw.refl _), ?_⟩
    simp only [Act.put, List.setIfInBounds_toArray, List.set_cons_zero, List.set_cons_succ]
    refine .inl ⟨.pointer (some ⟨b, 0, none⟩), fun v W hW hd => step_run rfl _ W (by clear hd; go_simp) rfl (Gw.refl _), ?_⟩
    simp only [Act.put, List.setIfInBounds_toArray, List.set_cons_zero, List.set_cons_succ]
    refine .inl ⟨.map (some m), fun v W hW hd => step_run rfl _ W (by clear hd; have ce := HcB.out W hW; go_simp) rfl (Gw.refl _), ?_⟩
    simp only [Act.put, List.setIfInBounds_toArray, List.set_cons_zero, List.set_cons_succ]
    refine .inl ⟨.agg #[.int .u8 (b0.toNat : Int), .int .u8 (b1.toNat : Int), .int .u8 (b2.toNat : Int), .int .u8 (b3.toNat : Int), .int .u8 (b4.toNat : Int), .int .u8 (b5.toNat : Int), .int .u8 (b6.toNat : Int), .int .u8 (b7.toNat : Int)], fun v W hW hd => step_run rfl _ W (by clear hd; obtain ⟨c0, c1, c2, c3, c4, c5, c6, c7⟩ := HcI.out W hW; go_simp) rfl (Gw.refl _), ?_⟩
    simp only [Act.put, List.setIfInBounds_toArray, List.set_cons_zero, List.set_cons_succ]
    refine .inl ⟨.tuple #[.string GS, .int .i64 GE], fun v W hW hd => step_call rfl 50 #[.map (some m), .agg #[.int .u8 (b0.toNat : Int), .int .u8 (b1.toNat : Int), .int .u8 (b2.toNat : Int), .int .u8 (b3.toNat : Int), .int .u8 (b4.toNat : Int), .int .u8 (b5.toNat : Int), .int .u8 (b6.toNat : Int), .int .u8 (b7.toNat : Int)], .int .i64 2] (by clear hd; go_simp) ((hget W hW).mono fun e w' h => ⟨_, h.1, rfl, h.2⟩), ?_⟩
    simp only [Act.put, List.setIfInBounds_toArray, List.set_cons_zero, List.set_cons_succ]
    refine .inl ⟨.tuple #[.string GS, .int .i64 GE], fun v W hW hd => step_run rfl _ W (by clear hd; go_simp) rfl (Gw.refl _), ?_⟩
    simp only [Act.put, List.setIfInBounds_toArray, List.set_cons_zero, List.set_cons_succ]
    refine .inl ⟨.string GS, fun v W hW hd => step_run rfl _ W (by clear hd; go_simp) rfl (Gw.refl _), ?_⟩
    simp only [Act.put, List.setIfInBounds_toArray, List.set_cons_zero, List.set_cons_succ]
    refine .inl ⟨.int .i64 GE, fun v W hW hd => step_run rfl _ W (by clear hd; go_simp) rfl (Gw.refl _), ?_⟩
    simp only [Act.put, List.setIfInBounds_toArray, List.set_cons_zero, List.set_cons_succ]
    refine .inl ⟨.string GS, fun v W hW hd => step_run rfl _ W (by clear hd; go_simp) rfl (Gw.refl _), ?_⟩
    simp only [Act.put, List.setIfInBounds_toArray, List.set_cons_zero, List.set_cons_succ]
    refine .inl ⟨.int .i64 GE, fun v W hW hd => step_run rfl _ W (by clear hd; go_simp) rfl (Gw.refl _), ?_⟩
    simp only [Act.put, List.setIfInBounds_toArray, List.set_cons_zero, List.set_cons_succ]
    intro v w3 hW3 hV
    clear hV
    have HB3 : Hid (Below w.heap.size w w3) := HBA.out.trans (Below.mono hW3 HBA.out.size)
    clear hget HcI HcB hW3
    go_wp2_with fail
    go_ret
    exact ⟨by rw [HRe.out]; rfl, Rf.of_below HB3.out hbase, fun e => by rw [HRe.out] at e; exact absurd e HE.out⟩
  have HRd2 : Hid (R = if (Td.read GS.data.toList).2 ≠ 0 then ([], (Td.read GS.data.toList).2) else Wk.reapNodes (pl bs) (Wk.reapDir (pl bs) k) path (Td.read GS.data.toList).1 (its items)) := by show _ = _; rw [HRd.out, if_neg (fun q => q hE)]
  subst hE
  clear HRd
  refine wp_region_rel (G := Gw) (W0 := WA) Gw.refl Gw.trans (by kernel_rfl) (by kernel_rfl) (by kernel_rfl) (Below.refl _ WA).drew ?_
  refine .inl ⟨.pointer (some ⟨b, 0, none⟩), fun v W hW hd => step_run rfl _ W (by clear hd; go_simp) rfl (Gw.refl _), ?_⟩
  simp only [Act.put, List.setIfInBounds_toArray, List.set_cons_zero, List.set_cons_succ]
  refine .inl ⟨.pointer (some ⟨b, 0, none⟩), fun v W hW hd => step_run rfl _ W (by clear hd; go_simp) rfl (Gw.refl _), ?_⟩
  simp only [Act.put, List.setIfInBounds_toArray, List.set_cons_zero, List.set_cons_succ]
  refine .inl ⟨.pointer (some ⟨b, 0, none⟩), fun v W hW hd => step_run rfl _ W (by clear hd; go_simp) rfl (Gw.refl _), ?_⟩
  simp only [Act.put, List.setIfInBounds_toArray, List.set_cons_zero, List.set_cons_succ]
  refine .inl ⟨.map (some m), fun v W hW hd => step_run rfl _ W (by clear hd; have ce := HcB.out W hW; go_simp) rfl (Gw.refl _), ?_⟩
  simp only [Act.put, List.setIfInBounds_toArray, List.set_cons_zero, List.set_cons_succ]
  refine .inl ⟨.agg #[.int .u8 (b0.toNat : Int), .int .u8 (b1.toNat : Int), .int .u8 (b2.toNat : Int), .int .u8 (b3.toNat : Int), .int .u8 (b4.toNat : Int), .int .u8 (b5.toNat : Int), .int .u8 (b6.toNat : Int), .int .u8 (b7.toNat : Int)], fun v W hW hd => step_run rfl _ W (by clear hd; obtain ⟨c0, c1, c2, c3, c4, c5, c6, c7⟩ := HcI.out W hW; go_simp) rfl (Gw.refl _), ?_⟩
  simp only [Act.put, List.setIfInBounds_toArray, List.set_cons_zero, List.set_cons_succ]
  refine .inl ⟨.tuple #[.string GS, .int .i64 0], fun v W hW hd => step_call rfl 50 #[.map (some m), .agg #[.int .u8 (b0.toNat : Int), .int .u8 (b1.toNat : Int), .int .u8 (b2.toNat : Int), .int .u8 (b3.toNat : Int), .int .u8 (b4.toNat : Int), .int .u8 (b5.toNat : Int), .int .u8 (b6.toNat : Int), .int .u8 (b7.toNat : Int)], .int .i64 2] (by clear hd; go_simp) ((hget W hW).mono fun e w' h => ⟨_, h.1, rfl, h.2⟩), ?_⟩
  simp only [Act.put, List.setIfInBounds_toArray, List.set_cons_zero, List.set_cons_succ]
  refine .inl ⟨.tuple #[.string GS, .int .i64 0], fun v W hW hd => step_run rfl _ W (by clear hd; go_simp) rfl (Gw.refl _), ?_⟩
  simp only [Act.put, List.setIfInBounds_toArray, List.set_cons_zero, List.set_cons_succ]
  refine .inl ⟨.string GS, fun v W hW hd => step_run rfl _ W (by clear hd; go_simp) rfl (Gw.refl _), ?_⟩
  simp only [Act.put, List.setIfInBounds_toArray, List.set_cons_zero, List.set_cons_succ]
  refine .inl ⟨.int .i64 0, fun v W hW hd => step_run rfl _ W (by clear hd; go_simp) rfl (Gw.refl _), ?_⟩
  simp only [Act.put, List.setIfInBounds_toArray, List.set_cons_zero, List.set_cons_succ]
  refine .inl ⟨.string GS, fun v W hW hd => step_run rfl _ W (by clear hd; go_simp) rfl (Gw.refl _), ?_⟩
  simp only [Act.put, List.setIfInBounds_toArray, List.set_cons_zero, List.set_cons_succ]
  refine .inl ⟨.int .i64 0, fun v W hW hd => step_run rfl _ W (by clear hd; go_simp) rfl (Gw.refl _), ?_⟩
  simp only [Act.put, List.setIfInBounds_toArray, List.set_cons_zero, List.set_cons_succ]
  intro v w3 hW3 hV
  clear hV
  have HB3 : Hid (Below w.heap.size w w3) := HBA.out.trans (Below.mono hW3 HBA.out.size)
  clear hget HcI HcB hW3
  have hrd := tread_oy GS w3 (by omega) (HT.out w3 (HB3.out.mono hbase))
  unfold TgOy at hrd
  go_wp2_with fail
  refine hrd.mono ?_
  rintro e w4 ⟨v4, l4, B4, rfl, hd4, ho4, hl4, hb4⟩
  have HB4 : Hid (Below w.heap.size w w4) := HB3.out.trans (hb4.mono HB3.out.size)
  have HO4 : Hid (Oy 7 104 NdG B4 w4 v4 l4) := ho4
  obtain ⟨na, nc, rfl⟩ := ho4.ry.slice
  have HRp4 : Hid (Rpt base b m nq bs w4 items) := HRp.out.below HB4.out
  have HD4 : Hid (nds l4 = (Td.read GS.data.toList).1) := hd4
  clear hrd hb4 ho4 hd4
  by_cases hE : (Td.read GS.data.toList).2 = 0
  case neg =>
    have HRe : Hid (R = ([], (Td.read GS.data.toList).2)) := by show _ = _; rw [HRd2.out, if_pos hE]
    have hne : ((Td.read GS.data.toList).2 != 0) = true := by rw [bne_iff_ne]; exact hE
    have HE : Hid ((Td.read GS.data.toList).2 ≠ 0) := hE
    generalize (Td.read GS.data.toList).2 = ER at *
    clear HRd2 hE
    go_wp2_with fail
    go_ret
    exact ⟨by rw [HRe.out]; rfl, Rf.of_below HB4.out hbase, fun e => by rw [HRe.out] at e; exact absurd e HE.out⟩
  have hchk : Td.check (nds l4) = 0 := by
    rw [HD4.out]
    exact (Td.write_read (Prod.ext rfl hE)).2.1
  have HNk : Hid (∀ n ∈ l4, Nk n) := fun n hn => nk_of hchk hn
  have HRn : Hid (R = Wk.reapNodes (pl bs) (Wk.reapDir (pl bs) k) path (nds (l4.drop 0)) (its items)) := by
    show _ = _
    rw [HRd2.out, if_neg (fun q => q hE), ← HD4.out]; rfl
  have HRf4 : Hid (Rf base w w4) := Rf.of_below HB4.out hbase
  obtain ⟨N, hN⟩ : ∃ N, N = l4.length := ⟨_, rfl⟩
  have HN : Hid (N = l4.length) := hN
  rw [← hN] at HO4 hl4 ⊢
  rw [hE]
  have HPl2 : Hid ((Nn.tails path).length ≤ 100000) := by
    have h1 := HPl.out
    rw [HPT.out, mkB, Lib.size_eq] at h1
    exact h1
  clear HRd2 hE hchk hN HD4
  go_wp2_with fail
  go_loopw [35] (fun i wr => ∃ (j : Nat) (ij : List Im), j ≤ N ∧ i = .int .i64 j ∧ Hid (R = Wk.reapNodes (pl bs) (Wk.reapDir (pl bs) k) path (nds (l4.drop j)) (its ij)) ∧ Hid (Rpt base b m nq bs wr ij) ∧ Hid (Rf base w wr) ∧ Hid (Oy 7 104 NdG B4 wr (.slice na N nc) l4)) (fun i _ => N - (intOf i).toNat)
  case atStart => exact ⟨0, items, by omega, rfl, HRn, HRp4, HRf4, HO4⟩
  case round =>
    clear HRn HRp4 HRf4 HO4
    obtain ⟨j, ij, hj, rfl, HRn, HRp, HRf, HO⟩ := hrel
    by_cases hlt : j < N
    · have hjl : j < l4.length := by rw [← HN.out]; exact hlt
      obtain ⟨n, hx⟩ : ∃ n, l4[j]? = some n := ⟨_, List.getElem?_eq_getElem hjl⟩
      have hnk := HNk.out n (List.mem_of_getElem? hx)
      obtain ⟨kb, ko, cs, rfl, hkb, hcl, hng, hcell⟩ := HO.out.ry.get j n hx
      obtain ⟨pv, ecs, hrx, hty, hno⟩ := hng
      subst ecs
      have hdrop : nds (l4.drop j) = n.nd :: nds (l4.drop (j + 1)) := by
        rw [List.drop_eq_getElem_cons hjl, (List.getElem?_eq_some_iff.1 hx).2]; rfl
      obtain ⟨S, hS⟩ : ∃ S, S = Wk.rstep (pl bs) (Wk.reapDir (pl bs) k) path n.nd (its ij) := ⟨_, rfl⟩
      have HRs : Hid (R = if S.2 ≠ 0 then ([], S.2) else Wk.reapNodes (pl bs) (Wk.reapDir (pl bs) k) path (nds (l4.drop (j + 1))) S.1) := by
        show _ = _
        rw [HRn.out, hdrop, Wk.rnodes_step, ← hS]
      obtain ⟨WB, hWB⟩ : ∃ WB, WB = wr.alloc (.cells (ndC n pv).toArray 104) := ⟨_, rfl⟩
      have hbB : Below wr.heap.size wr WB := by rw [hWB]; exact (Below.refl _ wr).alloc (Nat.le_refl _) _
      have hbw : base ≤ wr.heap.size := Nat.le_trans hbase HRf.out.size
      have HfB : Hid (Rf base w WB) := HRf.out.trans (Rf.of_below hbB hbw)
      have hngB : NdG WB n (ndC n pv) := NdG.keep hbB.size (fun q cur fr ho => (hbB.block q (Array.getElem?_eq_some_iff.1 ho).1).trans ho) ⟨pv, rfl, hrx, hty, hno⟩
      have hnode := rnode_any base b m nq bs hsm k ih path Hmisc.out.1 Hmisc.out.2 n pv hnk ij WB (HRp.out.below hbB) hngB (fun W hW => HT.out W (HfB.out.low.trans hW)) S hS
      have HOB : Hid (Oy 7 104 NdG B4 WB (.slice (some ⟨kb, ko, none⟩) N nc) l4) := HO.out.belowN hbB
      have hc1 : ∀ W : World, (Op.stringOp .add PT ⟨#[47]⟩).run Tryz.prog W = .ok (.string ⟨(Nn.tails path ++ [47]).toArray⟩) W := fun W => by
        have := run_string_add_lists (P := Tryz.prog) W (Nn.tails path) [47] (by have := HPl2.out; omega) (by simp)
        rw [HPT.out]
        exact this
      obtain ⟨PT2, hPT2⟩ : ∃ PT2 : ByteArray, PT2 = ⟨(Nn.tails path ++ [47]).toArray⟩ := ⟨_, rfl⟩
      rw [← hPT2] at hc1
      have hc2 : ∀ W : World, (Op.stringOp .add PT2 n.name).run Tryz.prog W = .ok (.string (mkB (Nn.tails (path ++ [n.name.data.toList])))) W := fun W => by
        have := run_string_add_lists (P := Tryz.prog) W (Nn.tails path ++ [47]) n.name.data.toList (by have := HPl2.out; simp; omega) (by have := hnk.name.2; omega)
        rw [hPT2, Wk.tails_snoc]
        rw [List.append_assoc] at this
        exact this
      obtain ⟨PN, hPN⟩ : ∃ PN, PN = mkB (Nn.tails (path ++ [n.name.data.toList])) := ⟨_, rfl⟩
      rw [← hPN] at hnode hc2
      obtain ⟨name, kind, mode, time, size, parts, link⟩ := n
      dsimp only [ndC] at *
      obtain ⟨pa, pc, epc, _, _⟩ := hrx.slice
      subst epc
      have x0 := hcell 0 _ rfl
      have x1 := hcell 1 _ rfl
      have x2 := hcell 2 _ rfl
      have x3 := hcell 3 _ rfl
      have x4 := hcell 4 _ rfl
      have x5 := hcell 5 _ rfl
      have x6 := hcell 6 _ rfl
      rw [Nat.add_zero] at x0
      generalize parts.length = PL at *
      clear hcell hdrop hngB hrx hty hno hPT2 hPN hx hS hjl hbB HRp HO HRn hcl hnk
      go_wp2_with fail
      rw [← hWB]
      refine hnode.mono ?_
      rintro e w5 ⟨rfl, f5, hz⟩
      have HF5 : Hid (Rf base w w5) := HfB.trans f5
      have HO5 : Hid (Oy 7 104 NdG B4 w5 (.slice (some ⟨kb, ko, none⟩) N nc) l4) := HOB.out.keep f5.size fun q cur t fr ht ho => f5.cells ho (by rcases ht with e | e <;> (rw [e]; decide)) (by rcases ht with e | e <;> (rw [e]; decide))
      have HZ : Hid (S.2 = 0 → ∃ items', its items' = S.1 ∧ Rpt base b m nq bs w5 items') := hz
      clear hWB hnode f5 hz x0 x1 x2 x3 x4 x5 x6 hc1 hc2 hkb HfB HOB
      by_cases hE : S.2 = 0
      · obtain ⟨ij', hi1, hi2⟩ := HZ.out hE
        have HRn : Hid (R = Wk.reapNodes (pl bs) (Wk.reapDir (pl bs) k) path (nds (l4.drop (j + 1))) (its ij')) := by show _ = _; rw [HRs.out, if_neg (fun q => q hE), hi1]
        have HRp : Hid (Rpt base b m nq bs w5 ij') := hi2
        rw [hE]
        clear HRs HZ hi1 hi2 hE
        go_wp2_with fail
        go_roundw
        case measure => simp only [intOf]; omega
        case rel => exact ⟨j + 1, ij', by omega, by go_num, HRn, HRp, HF5, HO5⟩
      · have HRe : Hid (R = ([], S.2)) := by show _ = _; rw [HRs.out, if_pos hE]
        have hne : (S.2 != 0) = true := by rw [bne_iff_ne]; exact hE
        have HE : Hid (S.2 ≠ 0) := hE
        generalize S.2 = ER at *
        clear HRs HZ hE
        go_wp2_with fail
        go_ret
        exact ⟨by rw [HRe.out]; rfl, HF5.out, fun e => by rw [HRe.out] at e; exact absurd e HE.out⟩
    · obtain rfl : j = N := by omega
      have HRe : Hid (R = (its ij, 0)) := by
        have e : l4.drop j = [] := by rw [HN.out]; exact List.drop_of_length_le (Nat.le_refl _)
        show _ = _
        rw [HRn.out, e]; rfl
      clear HRn HO
      go_wp2_with fail
      go_ret
      exact ⟨by rw [HRe.out]; rfl, HRf.out, fun _ => ⟨ij, by rw [HRe.out], HRp.out⟩⟩
theorem rdir_all {base b m nq : Nat} {bs : List Blb} (hsm : Sm bs) : ∀ k, 1 ≤ k → RDirOk base b m nq bs k
  | 0, h => by omega
  | k + 1, _ => rdir_step base b m nq bs hsm k fun h => rdir_all hsm k h
end Go.Proofs.YthpcbbkpjggjbaaGreatDoor
