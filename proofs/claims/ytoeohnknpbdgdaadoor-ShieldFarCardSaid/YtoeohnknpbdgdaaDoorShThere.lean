/-
  What bytesThere and checkShards of package shield answer.
-/
import Derived.Test.YtoeohnknpbdgdaaDoorShSx
import Derived.Test.YtoeohnknpbdgdaaDoorShGuard
namespace Go.Proofs.YtoeohnknpbdgdaaDoor
open Go.RowKit
set_option maxRecDepth 4000

/-- the bytes of the first k shards that are there -/
def th (l : List Shd) : Nat → List ByteArray
  | 0 => []
  | k + 1 => if (l.getD k Shd.none).has then th l k ++ [(l.getD k Shd.none).bytes] else th l k
theorem th_le (l : List Shd) : ∀ k, (th l k).length ≤ k
  | 0 => Nat.le_refl _
  | k + 1 => by
    have := th_le l k
    rw [th]
    split
    · rw [List.length_append, List.length_singleton]; omega
    · omega
theorem th_take (l : List Shd) (n : Nat) : ∀ k, k ≤ n → th (l.take n) k = th l k
  | 0, _ => rfl
  | k + 1, h => by
    have e : (l.take n).getD k Shd.none = l.getD k Shd.none := by rw [List.getD_eq_getElem?_getD, List.getD_eq_getElem?_getD, List.getElem?_take, if_pos (by omega)]
    rw [th, th, e, th_take l n k (by omega)]
/-- one text more behind an owned row -/
theorem own_tx {base : Nat} {w wr w1 : World} {v v1 : Value} {l : List ByteArray} {e : ByteArray} {o : Obj} (hown : wr.ownsRow base 9 1 v l.length (l.map Tv))
    (hown1 : w1.ownsRow base 9 1 v1 (l.length + 1) (l.map Tv ++ [.string e])) (hg : (wr.alloc o).grownBy w1 v.ownBlock) (hbel : Below base w wr) (hbase : base ≤ w.heap.size) :
    w1.ownsRow base 9 1 v1 (l ++ [e]).length ((l ++ [e]).map Tv) ∧ Below base w w1 := by
  refine ⟨by simpa [Tv] using hown1, ?_⟩
  have hs := hbel.size
  refine (hbel.alloc (by omega) o).grown hg (by simp; omega) ?_
  intro k hk
  exact (hown.lt k hk).1

set_option maxHeartbeats 2000000 in
theorem bytesThere_any (v : Value) (l : List Shd) (w : World) (h : Sx w v l) (hl : l.length ≤ 24) :
    Calls Tryd.prog 27 #[v] w fun e w' => ∃ u, e = .returned u ∧ w'.ownsRow w.heap.size 9 1 u (th l l.length).length ((th l l.length).map Tv) ∧ Below w.heap.size w w' := by
  obtain ⟨i0, hi, hz0, hz1, hz2⟩ := info_parts info_str
  obtain ⟨a, c, rfl, hc1, hc2⟩ := h.slice
  have HX : Hid (Sx w (.slice a l.length c) l) := h
  obtain ⟨N, hN⟩ : ∃ N, N = l.length := ⟨_, rfl⟩
  have HN : Hid (N = l.length) := hN
  rw [← hN] at HX hl ⊢
  clear hN h hc1 hc2
  go_enter Tryd.func27, Tryd.ntmps27
  go_wp2_with fail
  go_loopw [3, 8] (fun u i wr => ∃ k : Nat, k ≤ N ∧ i = .int .i64 k ∧ Hid (wr.ownsRow w.heap.size 9 1 u (th l k).length ((th l k).map Tv)) ∧ Hid (Below w.heap.size w wr)) (fun _ i _ => N - (intOf i).toNat)
  case atStart => exact ⟨0, by omega, rfl, World.ownsRow_nil _ _ _ _, Below.refl _ _⟩
  case round =>
    obtain ⟨k, hk, rfl, HO, HB⟩ := hrel
    by_cases hlt : k < N
    · obtain ⟨bk, o, rfl, hbk, c0, c1⟩ := (HX.out.below HB.out).get k (by rw [← HN.out]; omega)
      have hle := th_le l k
      have HT : Hid (th l (k + 1) = if (l.getD k Shd.none).has then th l k ++ [(l.getD k Shd.none).bytes] else th l k) := rfl
      generalize l.getD k Shd.none = t at *
      obtain ⟨hs, s⟩ := t
      dsimp only at c0 c1 HT
      cases hs with
      | true =>
        have HT1 : Hid (th l (k + 1) = th l k ++ [s]) := HT.out
        have HO2 : Hid ((wr.alloc (.cells #[.bool true, .string s] 31)).ownsRow w.heap.size 9 1 u3 (th l k).length ((th l k).map Tv)) := HO.out.alloc _
        have HB2 : Hid (Below w.heap.size w (wr.alloc (.cells #[.bool true, .string s] 31))) := HB.out.alloc HB.out.size _
        clear HT HO HB
        generalize th l k = R at *
        go_wp2_with (at_builtin; refine wpList_append_own _ rfl _ _ 22 rfl w.heap.size 9 i0 (.string ⟨#[]⟩) 1 16 Tryd.underlying22 hi hz0 hz1 hz2 rfl (by decide) _ _ _ rfl (HO2.out.alloc _) ⟨wr.heap.size + 1, 0, none⟩ 1 1 [.string s] rfl rfl ?c1 ?c2 ?c3 ?c4 ?c5 ?_)
        case c1 =>
          intro j u hj
          match j, hj with
          | 0, hj => simp at hj; subst hj; simp [Addr.add]
        case c2 => intro u hu; simp at hu; subst hu; rfl
        case c3 => unfold maxLen; omega
        case c4 => omega
        case c5 => have := HB2.out.size; simp at this ⊢; omega
        intro v' w1 hown1 hgrow _
        have RR := own_tx HO2.out hown1 hgrow HB2.out (Nat.le_refl _)
        have HR1 : Hid (w1.ownsRow w.heap.size 9 1 v' (th l (k + 1)).length ((th l (k + 1)).map Tv)) := by rw [HT1.out]; exact RR.1
        have HR2 : Hid (Below w.heap.size w w1) := RR.2
        clear RR hown1 hgrow HO2 HB2
        go_wp2_with fail
        go_roundw
        case rel => exact ⟨k + 1, by omega, by go_num, HR1, HR2⟩
        case measure => simp only [intOf]; omega
      | false =>
        have HT1 : Hid (th l (k + 1) = th l k) := HT.out
        have HO2 : Hid ((wr.alloc (.cells #[.bool false, .string s] 31)).ownsRow w.heap.size 9 1 u3 (th l (k + 1)).length ((th l (k + 1)).map Tv)) := by rw [HT1.out]; exact HO.out.alloc _
        have HB2 : Hid (Below w.heap.size w (wr.alloc (.cells #[.bool false, .string s] 31))) := HB.out.alloc HB.out.size _
        clear HT HO HB HT1
        go_wp2_with fail
        go_roundw
        case rel => exact ⟨k + 1, by omega, by go_num, HO2, HB2⟩
        case measure => simp only [intOf]; omega
    · obtain rfl : k = N := by omega
      go_wp2_with fail
      go_ret
      exact ⟨_, rfl, HO.out, HB.out⟩

/-- P26's error -/
def mErr (l : List Shd) (n : Int) : Nat :=
  if wi n 16 && wi ((l.length : Int) - n) 8 then (if sizes (th l l.length) ≠ 0 then sizes (th l l.length) else if ((th l l.length).length : Int) < n then 7 else 0) else 1
theorem mErr_args {l : List Shd} {n : Int} (h : (wi n 16 && wi ((l.length : Int) - n) 8) = true) : 1 ≤ n ∧ n ≤ 16 ∧ n + 1 ≤ l.length ∧ (l.length : Int) ≤ n + 8 := by
  unfold wi at h
  simp at h
  omega
theorem mErr_zero {l : List Shd} {n : Int} (h : mErr l n = 0) : 1 ≤ n ∧ n ≤ 16 ∧ n + 1 ≤ l.length ∧ (l.length : Int) ≤ n + 8 ∧ sizes (th l l.length) = 0 ∧ n ≤ (th l l.length).length := by
  unfold mErr at h
  split at h
  · next h1 =>
    have := mErr_args h1
    split at h
    · omega
    · split at h
      · omega
      · exact ⟨this.1, this.2.1, this.2.2.1, this.2.2.2, by omega, by omega⟩
  · omega

set_option maxHeartbeats 1000000 in
theorem checkShards_any (v : Value) (l : List Shd) (n : Int) (w : World) (h : Sx w v l) (hl : l.length ≤ 140737488351232) :
    Calls Tryd.prog 18 #[v, .int .i64 n] w fun e w' => e = .returned (.int .i64 (mErr l n : Nat)) ∧ Below w.heap.size w w' := by
  have h1 := within_any n 16 w
  cases hb1 : wi n 16 with
  | false =>
    have HE : Hid (mErr l n = 1) := by show _ = _; unfold mErr; rw [hb1]; rfl
    rw [hb1] at h1
    rw [HE.out]
    obtain ⟨a, c, rfl, hc1, hc2⟩ := h.slice
    go_enter Tryd.func18, Tryd.ntmps18
    go_wp2_with (refine h1.mono ?_; rintro e u ⟨rfl, rfl⟩)
    go_ret
    exact ⟨rfl, Below.refl _ _⟩
  | true =>
    rw [hb1] at h1
    have hn16 : 1 ≤ n ∧ n ≤ 16 := of_decide_eq_true hb1
    have h2 := within_any ((l.length : Int) - n) 8 w
    cases hb2 : wi ((l.length : Int) - n) 8 with
    | false =>
      have HE : Hid (mErr l n = 1) := by show _ = _; unfold mErr; rw [hb1, hb2]; rfl
      rw [hb2] at h2
      rw [HE.out]
      obtain ⟨a, c, rfl, hc1, hc2⟩ := h.slice
      go_enter Tryd.func18, Tryd.ntmps18
      go_wp2_with fail
      refine h1.mono ?_
      rintro e u ⟨rfl, hu⟩
      obtain rfl := hu.symm
      clear hu
      go_wp2_with fail
      refine h2.mono ?_
      rintro e u ⟨rfl, hu⟩
      obtain rfl := hu.symm
      clear hu
      go_wp2_with fail
      go_ret
      exact ⟨rfl, Below.refl _ _⟩
    | true =>
      have ha := mErr_args (l := l) (n := n) (by rw [hb1, hb2]; rfl)
      have HE : Hid (mErr l n = if sizes (th l l.length) ≠ 0 then sizes (th l l.length) else if ((th l l.length).length : Int) < n then 7 else 0) := by show _ = _; unfold mErr; rw [hb1, hb2]; rfl
      have h3 := bytesThere_any v l w h (by omega)
      have hR := th_le l l.length
      rw [hb2] at h2
      obtain ⟨a, c, rfl, hc1, hc2⟩ := h.slice
      generalize mErr l n = Z at *
      generalize th l l.length = R at *
      clear h
      generalize l.length = N at *
      go_enter Tryd.func18, Tryd.ntmps18
      go_wp2_with fail
      refine h1.mono ?_
      rintro e u ⟨rfl, hu⟩
      obtain rfl := hu.symm
      clear hu
      go_wp2_with fail
      refine h2.mono ?_
      rintro e u ⟨rfl, hu⟩
      obtain rfl := hu.symm
      clear hu
      go_wp2_with fail
      refine h3.mono ?_
      rintro e w1 ⟨u, rfl, hown, hb⟩
      have h4 := checkSizes_any u R w1 (Tx.of_own hown) (by omega)
      have HB : Hid (Below w.heap.size w w1) := hb
      obtain ⟨ua, uc, rfl⟩ := own_len hown
      clear hown hb h1 h2 h3
      go_wp2_with fail
      refine h4.mono ?_
      rintro e w2 ⟨rfl, hu⟩
      obtain rfl := hu.symm
      clear hu h4
      by_cases g1 : sizes R = 0
      · have q1 : (((sizes R : Nat) : Int) != 0) = false := by rw [g1]; rfl
        rw [g1]
        by_cases g2 : (R.length : Int) < n
        · have HZ : Hid (Z = 7) := by have := HE.out; rwa [if_neg (by omega), if_pos g2] at this
          clear HE q1 g1
          go_wp2_with fail
          go_ret
          exact ⟨by rw [HZ.out]; rfl, HB.out⟩
        · have HZ : Hid (Z = 0) := by have := HE.out; rwa [if_neg (by omega), if_neg g2] at this
          clear HE q1 g1
          go_wp2_with fail
          go_ret
          exact ⟨by rw [HZ.out]; rfl, HB.out⟩
      · have HZ : Hid (Z = sizes R) := by have := HE.out; rwa [if_pos g1] at this
        clear HE
        generalize sizes R = S at *
        have q1 : ((S : Int) != 0) = true := by rw [bne_iff_ne]; omega
        go_wp2_with fail
        go_ret
        exact ⟨by rw [HZ.out]; rfl, HB.out⟩
end Go.Proofs.YtoeohnknpbdgdaaDoor
