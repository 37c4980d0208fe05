/-
  What Check of package shield answers.
-/
import Derived.Test.YtoeohnknpbdgdaaDoorShMendG
namespace Go.Proofs.YtoeohnknpbdgdaaDoor
open Go.RowKit
set_option maxRecDepth 4000

/-- a guard that is there is not that of the parts -/
def off (l : List Shd) (n j : Nat) : Prop := hasF l (n + j) = true ∧ (l.getD (n + j) Shd.none).bytes ≠ Fd.guard (mnd l n) j
/-- what Check answers -/
def ckd (l : List Shd) (n : Nat) (z : Nat) : Prop := (z = 6 ∧ ∃ j, n + j < l.length ∧ off l n j) ∨ (z = 0 ∧ ∀ j, n + j < l.length → ¬ off l n j)
theorem mnd_length (l : List Shd) (n : Nat) : (mnd l n).length = n := by simp [mnd]
theorem mnd_get {l : List Shd} {n i : Nat} (h : i < n) : (mnd l n).getD i ByteArray.empty = bn (Fd.part (hasF l) (bytF l) n (l.length - n) i) := by
  rw [List.getD_eq_getElem?_getD, List.getElem?_eq_getElem (by rw [mnd_length]; exact h)]
  simp [mnd]
/-- what is known where nothing is wrong -/
structure Fine (l : List Shd) (n : Nat) : Prop where
  n1 : 1 ≤ n
  n16 : n ≤ 16
  more : n < l.length
  most : l.length ≤ n + 8
  sz : sizes (th l l.length) = 0
  cnt : n ≤ Fd.cnt (hasF l) (n + (l.length - n))
theorem fine_of {l : List Shd} {n : Nat} (he : mErr l n = 0) : Fine l n := by
  obtain ⟨g1, g2, g3, g4, g5, g6⟩ := mErr_zero he
  rw [th_cnt] at g6
  exact ⟨by omega, by omega, by omega, by omega, g5, by rw [show n + (l.length - n) = l.length from by omega]; omega⟩
theorem Fine.len {l : List Shd} {n : Nat} (h : Fine l n) : ∀ i, i < n + (l.length - n) → hasF l i = true → (bytF l i).length = lenF l := fun i hi => len_there h.sz i (by have := h.more; omega)
theorem Fine.bs {l : List Shd} {n : Nat} (_ : Fine l n) : ∀ i, i < n + (l.length - n) → hasF l i = true → Fd.Bs (bytF l i) := fun _ _ _ => nb_bs _
theorem Fine.part_len {l : List Shd} {n i : Nat} (h : Fine l n) (hi : i < n) : (Fd.part (hasF l) (bytF l) n (l.length - n) i).length = lenF l :=
  Fd.part_length (by have := h.n16; omega) (by have := h.most; omega) h.cnt h.len h.bs hi
theorem Fine.part_bs {l : List Shd} {n i : Nat} (h : Fine l n) (hi : i < n) : Fd.Bs (Fd.part (hasF l) (bytF l) n (l.length - n) i) :=
  Fd.part_bs (by have := h.n16; omega) (by have := h.most; omega) h.cnt h.len h.bs hi
theorem Fine.sizes {l : List Shd} {n : Nat} (h : Fine l n) : ∀ s ∈ mnd l n, s.size = lenF l := fun s hs => by
  obtain ⟨i, hi, rfl⟩ := List.mem_map.mp hs
  rw [bn_size]
  exact h.part_len (List.mem_range.1 hi)

set_option maxHeartbeats 1000000 in
theorem check_bad (v : Value) (l : List Shd) (n : Int) (w : World) (h : Sx w v l) (hl : l.length ≤ 140737488351232) (he : mErr l n ≠ 0) :
    Calls Tryd.prog 9 #[v, .int .i64 n] w fun e w' => e = .returned (.int .i64 (mErr l n : Nat)) ∧ Below w.heap.size w w' := by
  have h1 := mend_bad v l n w h hl he
  obtain ⟨a, c, rfl, hc1, hc2⟩ := h.slice
  generalize mErr l n = Z at *
  have hq : ((Z : Int) != 0) = true := by rw [bne_iff_ne]; omega
  clear he h
  go_enter Tryd.func9, Tryd.ntmps9
  go_wp2_with fail
  refine h1.mono ?_
  rintro e w1 ⟨rfl, hb⟩
  have HB : Hid (Below w.heap.size w w1) := hb
  clear hb h1
  go_wp2_with fail
  go_ret
  exact ⟨rfl, HB.out⟩

set_option maxHeartbeats 4000000 in
theorem check_ok (v : Value) (l : List Shd) (n : Nat) (w : World) (h : Sx w v l) (he : mErr l n = 0) :
    Calls Tryd.prog 9 #[v, .int .i64 n] w fun e w' => ∃ z : Nat, ckd l n z ∧ e = .returned (.int .i64 z) ∧ Below w.heap.size w w' := by
  have f := fine_of he
  have h1 := mend_ok v l n w h he
  have HG : Hid (∀ (u : Value) W (j : Nat), j < 8 → Tx W u (mnd l n) → Calls Tryd.prog 14 #[u, .int .i64 j] W fun e w' => e = .returned (.string (Fd.guard (mnd l n) j)) ∧ Below W.heap.size W w') := fun u W j hj hT =>
    guardOf_any u (mnd l n) j (lenF l) W hT (by rw [mnd_length]; exact f.n1) (by rw [mnd_length]; exact f.n16) hj f.sizes (lenF_le f.sz)
  obtain ⟨a, c, rfl, hc1, hc2⟩ := h.slice
  obtain ⟨bk, o, rfl, hbk, hju⟩ := h.get 0 (by have := f.more; omega)
  clear hju
  have HX : Hid (Sx w (.slice (some ⟨bk, o, none⟩) l.length c) l) := h
  obtain ⟨N, hN⟩ : ∃ N, N = l.length := ⟨_, rfl⟩
  have HN : Hid (N = l.length) := hN
  have hnN : n < N := by rw [hN]; exact f.more
  have hN8 : N ≤ n + 8 := by rw [hN]; exact f.most
  have hn16 := f.n16
  rw [← hN] at HX h1 hc1 ⊢
  have hnc : n ≤ c := by omega
  obtain ⟨p, hp⟩ : ∃ p, N - n = p := ⟨_, rfl⟩
  have HNp : Hid (N = n + p) := by show _ = _; omega
  have hp8 : p ≤ 8 := by omega
  have HO : Hid (∀ j, off l n j ↔ hasF l (n + j) = true ∧ (l.getD (n + j) Shd.none).bytes ≠ Fd.guard (mnd l n) j) := fun j => Iff.rfl
  have HC : Hid (∀ z : Nat, ckd l n z ↔ (z = 6 ∧ ∃ j, j < p ∧ off l n j) ∨ (z = 0 ∧ ∀ j, j < p → ¬ off l n j)) := fun z => by
    unfold ckd
    rw [← hN, HNp.out]
    constructor
    · rintro (⟨h1, j, h2, h3⟩ | ⟨h1, h2⟩)
      · exact .inl ⟨h1, j, by omega, h3⟩
      · exact .inr ⟨h1, fun j hj => h2 j (by omega)⟩
    · rintro (⟨h1, j, h2, h3⟩ | ⟨h1, h2⟩)
      · exact .inl ⟨h1, j, by omega, h3⟩
      · exact .inr ⟨h1, fun j hj => h2 j (by omega)⟩
  generalize mnd l n = P at *
  clear h f he hN
  go_enter Tryd.func9, Tryd.ntmps9
  go_wp2_with fail
  refine h1.mono ?_
  rintro e w1 ⟨u, rfl, hown, hb⟩
  have HT1 : Hid (Tx w1 u P) := Tx.of_own hown
  obtain ⟨ua, uc, rfl⟩ := own_len hown
  have HB1 : Hid (Below w.heap.size w w1) := hb
  clear hb h1 hown
  generalize P.length = pn at *
  go_wp2_with fail
  go_loopw [22] (fun i wr => ∃ k : Nat, k ≤ p ∧ i = .int .i64 k ∧ Hid (∀ j, j < k → ¬ off l n j) ∧ Hid (Tx wr (.slice ua pn uc) P) ∧ Hid (Below w.heap.size w wr)) (fun i _ => p - (intOf i).toNat)
  case atStart => exact ⟨0, by omega, rfl, fun j hj => by omega, HT1, HB1⟩
  case round =>
    clear HT1 HB1
    obtain ⟨k, hk, rfl, HZ, HT, HB⟩ := hrel
    by_cases hlt : k < p
    · have hXr := HX.out.below HB.out
      obtain ⟨bk2, o2, e2, hbk2, c0, c1⟩ := (hXr.drop n (by rw [← HN.out]; omega)).get k (by rw [List.length_drop, ← HN.out]; omega)
      rw [Option.some.injEq, Addr.mk.injEq] at e2
      obtain ⟨rfl, rfl, e3⟩ := e2
      clear e3 hXr
      rw [getD_drop] at c0 c1
      have HOk := HO.out k
      rw [show hasF l (n + k) = (l.getD (n + k) Shd.none).has from rfl] at HOk
      have HOK : Hid (off l n k ↔ (l.getD (n + k) Shd.none).has = true ∧ (l.getD (n + k) Shd.none).bytes ≠ Fd.guard P k) := HOk
      clear HOk
      generalize l.getD (n + k) Shd.none = sd at *
      obtain ⟨hs1, sk⟩ := sd
      dsimp only at c0 c1 HOK
      have hcall := fun W (hW : Tx W (.slice ua pn uc) P) => HG.out (.slice ua pn uc) W k (by omega) hW
      generalize Fd.guard P k = gk at *
      obtain ⟨W0, hW0⟩ : ∃ W0, W0 = wr.alloc (.cells #[.bool hs1, .string sk] 31) := ⟨_, rfl⟩
      have hBW : Below wr.heap.size wr W0 := by rw [hW0]; exact (Below.refl _ _).alloc (Nat.le_refl _) _
      have hlB : wr.heap.size < W0.heap.size := by rw [hW0]; simp
      have x0 : ∀ X : Since W0.heap.size W0, X.val.cell? ⟨wr.heap.size, 0, none⟩ = some (.bool hs1) := fun X => (X.property.cell (p := ⟨wr.heap.size, 0, none⟩) hlB).trans (by rw [hW0]; simp)
      have x1 : ∀ X : Since W0.heap.size W0, X.val.cell? ⟨wr.heap.size, 1, none⟩ = some (.string sk) := fun X => (X.property.cell (p := ⟨wr.heap.size, 1, none⟩) hlB).trans (by rw [hW0]; simp)
      have hT0 := HT.out.below hBW
      have hb0 : Below w.heap.size w W0 := HB.out.trans (hBW.mono HB.out.size)
      have hne : Nonempty (Since W0.heap.size W0) := ⟨⟨W0, Below.refl _ _⟩⟩
      have hS : ∀ X : Since W0.heap.size W0, Calls Tryd.prog 14 #[.slice ua pn uc, .int .i64 k] X.val fun e w'' => e = .returned (.string gk) ∧ ∃ Y : Since W0.heap.size W0, w'' = Y.val := fun X =>
        quiet_since X (hcall X.val (hT0.below X.property))
      have HTB : Hid (∀ X : Since W0.heap.size W0, Tx X.val (.slice ua pn uc) P ∧ Below w.heap.size w X.val) := fun X => ⟨hT0.below X.property, hb0.trans (X.property.mono hb0.size)⟩
      clear HT HB hcall hT0 hb0 hBW hlB
      cases hs1 with
      | false =>
        have HZn : Hid (∀ j, j < k + 1 → ¬ off l n j) := fun j hj => by
          by_cases e : j = k
          · subst e; rw [HOK.out]; simp
          · exact HZ.out j (by omega)
        clear HZ HOK hS
        go_upto_region 7 with fail
        rw [← hW0]
        clear hW0 c0 c1
        refine wp_region_since (B := W0.heap.size) (W0 := W0) (by kernel_rfl) (by kernel_rfl) (Below.refl _ _) ?_
        repeat (go_big_quiet_step (fail))
        refine wpQuiet_nil ?_
        rintro w7 ⟨U, rfl⟩
        have HY := HTB.out U
        have HY1 : Hid (Tx U.val (.slice ua pn uc) P) := HY.1
        have HY2 : Hid (Below w.heap.size w U.val) := HY.2
        generalize U.val = w7 at *
        clear x0 x1 hne HTB HY
        go_wp2_with fail
        go_roundw
        case rel => exact ⟨k + 1, by omega, by go_num, HZn, HY1, HY2⟩
        case measure => simp only [intOf]; omega
      | true =>
        by_cases hsame : sk = gk
        · have HZn : Hid (∀ j, j < k + 1 → ¬ off l n j) := fun j hj => by
            by_cases e : j = k
            · subst e; rw [HOK.out]; simp [hsame]
            · exact HZ.out j (by omega)
          subst hsame
          clear HZ HOK
          go_upto_region 7 with fail
          rw [← hW0]
          clear hW0 c0 c1
          refine wp_region_since (B := W0.heap.size) (W0 := W0) (by kernel_rfl) (by kernel_rfl) (Below.refl _ _) ?_
          repeat (go_big_quiet_step (fail))
          go_big_quiet_step (exact hS _)
          repeat (go_big_quiet_step (fail))
          refine wpQuiet_nil ?_
          rintro w7 ⟨U, rfl⟩
          have HY := HTB.out U
          have HY1 : Hid (Tx U.val (.slice ua pn uc) P) := HY.1
          have HY2 : Hid (Below w.heap.size w U.val) := HY.2
          generalize U.val = w7 at *
          clear x0 x1 hne HTB HY hS
          go_wp2_with fail
          go_roundw
          case rel => exact ⟨k + 1, by omega, by go_num, HZn, HY1, HY2⟩
          case measure => simp only [intOf]; omega
        · have HZn : Hid (ckd l n 6) := (HC.out 6).mpr (.inl ⟨rfl, k, hlt, HOK.out.mpr ⟨rfl, hsame⟩⟩)
          have hsb := text_ne hsame
          clear HZ HOK
          go_upto_region 7 with fail
          rw [← hW0]
          clear hW0 c0 c1
          refine wp_region_since (B := W0.heap.size) (W0 := W0) (by kernel_rfl) (by kernel_rfl) (Below.refl _ _) ?_
          repeat (go_big_quiet_step (fail))
          go_big_quiet_step (exact hS _)
          repeat (go_big_quiet_step (fail))
          refine wpQuiet_nil ?_
          rintro w7 ⟨U, rfl⟩
          have HY := HTB.out U
          have HY2 : Hid (Below w.heap.size w U.val) := HY.2
          generalize U.val = w7 at *
          clear x0 x1 hne HTB HY hS
          go_wp2_with fail
          go_ret
          exact ⟨6, HZn.out, rfl, HY2.out⟩
    · obtain rfl : k = p := by omega
      have HZn : Hid (ckd l n 0) := (HC.out 0).mpr (.inr ⟨rfl, HZ.out⟩)
      go_wp2_with fail
      go_ret
      exact ⟨0, HZn.out, rfl, HB.out⟩
end Go.Proofs.YtoeohnknpbdgdaaDoor
