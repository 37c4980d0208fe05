/-
  The walk of lumlaw.ShieldMends: it returns true.
-/
import Derived.Test.YtoeohnknpbdgdaaShFunc
import Derived.Test.YtoeohnknpbdgdaaShTrue
import Derived.Test.YtoeohnknpbdgdaaShRef
import Derived.Test.YtoeohnknpbdgdaaShRefM
namespace Go.Proofs.Ytoeohnknpbdgdaa
open Go.RowKit
set_option maxRecDepth 4000

set_option maxHeartbeats 1000000 in
theorem shieldMends_bad (v : Value) (l : List Shd) (n : Int) (w : World) (h : Sx w v l) (hl : l.length ≤ 140737488351232) (he : mErr l n ≠ 0) :
    Calls Try.prog 4 #[v, .int .i64 n] w fun e w' => e = .returned (.bool true) ∧ Below w.heap.size w w' := by
  have h1 := mend_bad v l n w h hl he
  have h2 : ∀ W, Below w.heap.size w W → _ := fun W hW => rmendErr_any v l n W (h.below hW)
  have h3 : ∀ W, Below w.heap.size w W → _ := fun W hW => check_bad v l n W (h.below hW) hl he
  obtain ⟨a, c, rfl, hc1, hc2⟩ := h.slice
  generalize mErr l n = Z at *
  have hq : ((Z : Int) != 0) = true := by rw [bne_iff_ne]; omega
  clear h he
  go_enter Try.func4, Try.ntmps4
  go_wp2_with fail
  refine h1.mono ?_
  rintro e w1 ⟨rfl, hb⟩
  have h2' := h2 w1 hb
  have HB : Hid (Below w.heap.size w w1) := hb
  clear hb h1 h2
  go_wp2_with fail
  refine h2'.mono ?_
  rintro e w2 ⟨rfl, hb⟩
  have HB2 : Hid (Below w.heap.size w w2) := HB.out.trans (hb.mono HB.out.size)
  have h3' := h3 w2 HB2.out
  clear hb h2' h3
  go_wp2_with fail
  refine h3'.mono ?_
  rintro e w3 ⟨rfl, hb⟩
  have HB3 : Hid (Below w.heap.size w w3) := HB2.out.trans (hb.mono HB2.out.size)
  clear hb h3'
  go_wp2_with fail
  go_ret
  exact ⟨rfl, HB3.out⟩

/-- a shard that is there is not that of the parts -/
def mis (l : List Shd) (n k : Nat) : Prop := hasF l k = true ∧ shard (mnd l n) k ≠ (l.getD k Shd.none).bytes
theorem shard_mnd_part {l : List Shd} {n k : Nat} (h : k < n) : shard (mnd l n) k = (mnd l n).getD k ByteArray.empty := by
  unfold shard; rw [mnd_length, if_pos h]
theorem shard_mnd_guard {l : List Shd} {n j : Nat} : shard (mnd l n) (n + j) = Fd.guard (mnd l n) j := by
  unfold shard; rw [mnd_length, if_neg (by omega), Nat.add_sub_cancel_left]
theorem mis_first {l : List Shd} {n k : Nat} (f : Fine l n) (hk : k < l.length) (hc : Fd.cnt (hasF l) k < n) : ¬ mis l n k := by
  rintro ⟨h1, h2⟩
  by_cases h : k < n
  · rw [shard_mnd_part h, f.part h h1] at h2
    exact h2 rfl
  · obtain ⟨j, rfl⟩ := Nat.exists_eq_add_of_le (show n ≤ k by omega)
    rw [shard_mnd_guard, f.guard hk h1 hc] at h2
    exact h2 rfl
theorem mis_off {l : List Shd} {n : Nat} (f : Fine l n) : (∃ k, k < l.length ∧ mis l n k) ↔ ∃ j, n + j < l.length ∧ off l n j := by
  constructor
  · rintro ⟨k, h1, h2⟩
    by_cases h : k < n
    · exact absurd h2 (mis_first f h1 (by have := Fd.cnt_lost (hasF l) k; omega))
    · obtain ⟨j, rfl⟩ := Nat.exists_eq_add_of_le (show n ≤ k by omega)
      refine ⟨j, h1, h2.1, fun e => h2.2 ?_⟩
      rw [shard_mnd_guard]; exact e.symm
  · rintro ⟨j, h1, h2, h3⟩
    exact ⟨n + j, h1, h2, fun e => h3 (by rw [← e, shard_mnd_guard])⟩
/-- what want is, behind the first k -/
def wnt (l : List Shd) (n k z : Nat) : Prop := (z = 6 ∧ ∃ j, j < k ∧ mis l n j) ∨ (z = 0 ∧ ∀ j, j < k → ¬ mis l n j)
theorem wnt_same {l : List Shd} {n k z : Nat} (h : wnt l n k z) (hk : ¬ mis l n k) : wnt l n (k + 1) z := by
  rcases h with ⟨h1, j, h2, h3⟩ | ⟨h1, h2⟩
  · exact .inl ⟨h1, j, by omega, h3⟩
  · refine .inr ⟨h1, fun j hj => ?_⟩
    by_cases e : j = k
    · rw [e]; exact hk
    · exact h2 j (by omega)
theorem wnt_mis {l : List Shd} {n k : Nat} (hk : mis l n k) : wnt l n (k + 1) 6 := .inl ⟨rfl, k, by omega, hk⟩
theorem wnt_end {l : List Shd} {n z y : Nat} (f : Fine l n) (h : wnt l n l.length z) (hy : ckd l n y) : y = z := by
  rcases h with ⟨h1, h2⟩ | ⟨h1, h2⟩ <;> rcases hy with ⟨h3, h4⟩ | ⟨h3, h4⟩
  · omega
  · obtain ⟨j, h5, h6⟩ := (mis_off f).mp h2
    exact absurd h6 (h4 j h5)
  · obtain ⟨k, h5, h6⟩ := (mis_off f).mpr h4
    exact absurd h6 (h2 k h5)
  · omega

set_option maxHeartbeats 4000000 in
theorem shieldMends_ok (v : Value) (l : List Shd) (n : Nat) (w : World) (h : Sx w v l) (he : mErr l n = 0) :
    Calls Try.prog 4 #[v, .int .i64 n] w fun e w' => e = .returned (.bool true) ∧ Below w.heap.size w w' := by
  have f := fine_of he
  have h1 := mend_ok v l n w h he
  rw [mnd_length] at h1
  have h2 : ∀ W, Below w.heap.size w W → _ := fun W hW => rmendErr_any v l n W (h.below hW)
  rw [he] at h2
  have h3 : ∀ W, Below w.heap.size w W → _ := fun W hW => check_ok v l n W (h.below hW) he
  have H3 : Hid (∀ z, wnt l n l.length z → ∀ W, Below w.heap.size w W → Calls Try.prog 12 #[v, .int .i64 n] W fun e w' => e = .returned (.int .i64 z) ∧ Below W.heap.size W w') := fun z hz W hW => (h3 W hW).mono fun e w' ⟨y, hy, h4, h5⟩ => ⟨by rw [h4, wnt_end f hz hy], h5⟩
  have HS : Hid (∀ (u : Value) W k, k < l.length → Tx W u (mnd l n) → Calls Try.prog 9 #[u, .int .i64 (k : Nat)] W fun e w' => e = .returned (.string (shard (mnd l n) k)) ∧ Below W.heap.size W w') := fun u W k hk hT => by
    by_cases hkn : k < n
    · exact (rshard_part u (mnd l n) k W hT (by rw [mnd_length]; exact hkn)).mono fun e w' ⟨h1, h2⟩ => ⟨h1, by rw [h2]; exact Below.refl _ _⟩
    · obtain ⟨j, rfl⟩ := Nat.exists_eq_add_of_le (show n ≤ k by omega)
      have := rshard_guard u (mnd l n) j (lenF l) W hT (by rw [mnd_length]; exact f.n1) (by rw [mnd_length]; exact f.n16) (by have := f.most; omega) f.sizes (lenF_le f.sz)
      rw [mnd_length] at this
      rw [shard_mnd_guard]
      exact this
  have HCF : Hid (∀ (u : Value) W B k, k < l.length → hasF l k = true → Tx W u (mnd l n) → W.cell? ⟨B, 1, none⟩ = some (.string (l.getD k Shd.none).bytes) → Calls Try.prog 13 #[u, .func (.func 14) #[] #[.pointer (some ⟨B, 0, none⟩)]] W fun e w' => e = .returned (.bool false) ∧ w' = W) := fun u W B k hk hh hT hB =>
    containsFunc_none u (mnd l n) _ B W hT (by rw [mnd_length]; exact f.n16) hB (fun x hx => by
      rw [f.sizes x hx]
      have := len_there f.sz k hk hh
      rw [bytF, nb_length] at this
      exact this.symm)
  have HMi : Hid (∀ k, k < l.length → Fd.cnt (hasF l) k < n → ¬ mis l n k) := fun k hk hc => mis_first f hk hc
  have HCn : Hid (∀ k, Fd.cnt (hasF l) k ≤ k) := fun k => by have := Fd.cnt_lost (hasF l) k; omega
  obtain ⟨a, c, rfl, hc1, hc2⟩ := h.slice
  have HX : Hid (Sx w (.slice a l.length c) l) := h
  obtain ⟨N, hN⟩ : ∃ N, N = l.length := ⟨_, rfl⟩
  have HN : Hid (N = l.length) := hN
  have hN24 : N ≤ 24 := by have := f.n16; have := f.most; omega
  have hn16 := f.n16
  rw [← hN] at HX h1 h2 H3 HS HCF HMi ⊢
  clear hN h f he h3 hc1
  have hq0 : ((n : Int) != (n : Int)) = false := bne_self_eq_false ..
  go_enter Try.func4, Try.ntmps4
  go_wp2_with fail
  refine h1.mono ?_
  rintro e w1 ⟨u, rfl, hown, hb⟩
  have h2' := h2 w1 hb
  have HT1 : Hid (Tx w1 u (mnd l n)) := Tx.of_own (by rw [mnd_length]; exact hown)
  obtain ⟨ua, uc, rfl⟩ := own_len hown
  have HB : Hid (Below w.heap.size w w1) := hb
  clear hb h1 h2 hown
  go_wp2_with fail
  refine h2'.mono ?_
  rintro e w2 ⟨rfl, hb⟩
  have HB2 : Hid (Below w.heap.size w w2) := HB.out.trans (hb.mono HB.out.size)
  have HT2 : Hid (Tx w2 (.slice ua n uc) (mnd l n)) := HT1.out.below hb
  clear hb h2' HB HT1
  go_wp2_with fail
  go_loopw [8, 9, 48] (fun mv wv i wr => ∃ (k z : Nat), k ≤ N ∧ i = .int .i64 k ∧ mv = .int .i64 (Fd.cnt (hasF l) k : Nat) ∧ wv = .int .i64 z ∧ Hid (wnt l n k z) ∧ Hid (Tx wr (.slice ua n uc) (mnd l n)) ∧ Hid (Below w.heap.size w wr)) (fun _ _ i _ => N - (intOf i).toNat)
  case atStart => exact ⟨0, 0, by omega, rfl, rfl, rfl, .inr ⟨rfl, fun j hj => by omega⟩, HT2, HB2⟩
  case round =>
    clear HT2 HB2
    obtain ⟨k, z, hk, rfl, rfl, rfl, HZ, HT, HB⟩ := hrel
    have hcn := HCn.out k
    by_cases hlt : k < N
    · have hXr := HX.out.below HB.out
      obtain ⟨bk, o, rfl, hbk, c0, c1⟩ := hXr.get k (by rw [← HN.out]; exact hlt)
      obtain ⟨W0, hW0⟩ : ∃ W0, W0 = wr.alloc (.cells #[.bool (l.getD k Shd.none).has, .string (l.getD k Shd.none).bytes] 33) := ⟨_, rfl⟩
      have hBW : Below wr.heap.size wr W0 := by rw [hW0]; exact (Below.refl _ _).alloc (Nat.le_refl _) _
      have hlB : wr.heap.size < W0.heap.size := by rw [hW0]; simp
      have x0 : W0.cell? ⟨wr.heap.size, 0, none⟩ = some (.bool (l.getD k Shd.none).has) := by rw [hW0]; simp
      have x1 : W0.cell? ⟨wr.heap.size, 1, none⟩ = some (.string (l.getD k Shd.none).bytes) := by rw [hW0]; simp
      have hT0 := HT.out.below hBW
      have hb0 : Below w.heap.size w W0 := HB.out.trans (hBW.mono HB.out.size)
      have HTB : Hid (Tx W0 (.slice ua n uc) (mnd l n) ∧ Below w.heap.size w W0) := ⟨hT0, hb0⟩
      have HCk : Hid (Fd.cnt (hasF l) (k + 1) = Fd.cnt (hasF l) k + if hasF l k then 1 else 0) := rfl
      have hh0 : hasF l k = (l.getD k Shd.none).has := rfl
      cases hh : (l.getD k Shd.none).has with
      | false =>
        have HZn : Hid (wnt l n (k + 1) z) := wnt_same HZ.out (fun e => by have := e.1; rw [hh0, hh] at this; cases this)
        have HC1 : Hid (Fd.cnt (hasF l) (k + 1) = Fd.cnt (hasF l) k) := by have := HCk.out; rw [hh0, hh] at this; exact this
        rw [hh] at x0 c0 hW0
        generalize (l.getD k Shd.none).bytes = sk at *
        generalize Fd.cnt (hasF l) k = cn at *
        clear HZ HT HB hT0 hb0 hBW hlB HCk hh0 hh hXr
        go_upto_region 11 with fail
        rw [← hW0]
        clear hW0 c0 c1
        go_wp2_with fail
        go_roundw
        case rel => exact ⟨k + 1, z, by omega, by go_num, by rw [HC1.out], rfl, HZn, HTB.out.1, HTB.out.2⟩
        case measure => simp only [intOf]; omega
      | true =>
        have hht : hasF l k = true := hh0.trans hh
        have hC1 : Fd.cnt (hasF l) (k + 1) = Fd.cnt (hasF l) k + 1 := by have := HCk.out; rw [hht] at this; exact this
        have HC1 : Hid (Fd.cnt (hasF l) (k + 1) = Fd.cnt (hasF l) k + 1) := hC1
        have hcf := HCF.out (.slice ua n uc) W0 wr.heap.size k hlt hht hT0 x1
        have hne : Nonempty (Since W0.heap.size W0) := ⟨⟨W0, Below.refl _ _⟩⟩
        have hS : ∀ X : Since W0.heap.size W0, Calls Try.prog 9 #[.slice ua n uc, .int .i64 k] X.val fun e w'' => e = .returned (.string (shard (mnd l n) k)) ∧ ∃ Y : Since W0.heap.size W0, w'' = Y.val := fun X =>
          quiet_since X (HS.out (.slice ua n uc) X.val k hlt (hT0.below X.property))
        have z1 : ∀ X : Since W0.heap.size W0, X.val.cell? ⟨wr.heap.size, 1, none⟩ = some (.string (l.getD k Shd.none).bytes) := fun X => (X.property.cell (p := ⟨wr.heap.size, 1, none⟩) hlB).trans x1
        have HTX : Hid (∀ X : Since W0.heap.size W0, Tx X.val (.slice ua n uc) (mnd l n) ∧ Below w.heap.size w X.val) := fun X => ⟨hT0.below X.property, hb0.trans (X.property.mono hb0.size)⟩
        have HMk : Hid (mis l n k ↔ shard (mnd l n) k ≠ (l.getD k Shd.none).bytes) := ⟨fun e => e.2, fun e => ⟨hht, e⟩⟩
        have hMi := HMi.out k hlt
        rw [hh] at x0 c0 hW0
        generalize (l.getD k Shd.none).bytes = sk at *
        generalize hss : shard (mnd l n) k = sh at *
        clear hss
        generalize hcc : Fd.cnt (hasF l) k = cn at *
        clear hcc HT HB hT0 hb0 hBW hlB HCk hh0 hh hXr HTB hC1 hht
        go_upto_region 11 with fail
        rw [← hW0]
        clear hW0 c0 c1
        have hcn24 : cn < 24 := by omega
        by_cases hsame : sh = sk
        · have HZn : Hid (wnt l n (k + 1) z) := wnt_same HZ.out (fun e => HMk.out.mp e hsame)
          subst hsame
          clear HMk hMi HZ
          obtain ⟨bz, hcz⟩ : ∃ b, ((cn : Int) == 0) = b := ⟨_, rfl⟩
          cases bz
          all_goals
            go_upto_region 15 with (refine hcf.mono ?_; rintro e u ⟨rfl, hu⟩; obtain rfl := hu.symm; clear hu)
            clear hcz
            refine wp_region_since (B := W0.heap.size) (W0 := W0) (by kernel_rfl) (by kernel_rfl) (Below.refl _ _) ?_
            repeat (go_big_quiet_step (fail))
            go_big_quiet_step (exact hS _)
            repeat (go_big_quiet_step (fail))
            refine wpQuiet_nil ?_
            rintro w7 ⟨U, rfl⟩
            have HY := HTX.out U
            have HY1 : Hid (Tx U.val (.slice ua n uc) (mnd l n)) := HY.1
            have HY2 : Hid (Below w.heap.size w U.val) := HY.2
            generalize U.val = w7 at *
            clear x0 x1 z1 hne HTX HY hS hcf
            go_wp2_with fail
            go_roundw
            case rel => exact ⟨k + 1, z, by omega, by go_num, by rw [HC1.out]; go_num, rfl, HZn, HY1, HY2⟩
            case measure => simp only [intOf]; omega
        · have hmis := HMk.out.mpr hsame
          have hge : n ≤ cn := by
            rcases Nat.lt_or_ge cn n with h | h
            · exact absurd hmis (hMi h)
            · exact h
          have HZn : Hid (wnt l n (k + 1) 6) := wnt_mis hmis
          have hsb := text_ne hsame
          have hgt : ¬ ((cn : Int) + 1 ≤ (n : Int)) := by omega
          clear HMk hMi HZ hmis
          obtain ⟨bz, hcz⟩ : ∃ b, ((cn : Int) == 0) = b := ⟨_, rfl⟩
          cases bz
          all_goals
            go_upto_region 15 with (refine hcf.mono ?_; rintro e u ⟨rfl, hu⟩; obtain rfl := hu.symm; clear hu)
            clear hcz
            refine wp_region_since (B := W0.heap.size) (W0 := W0) (by kernel_rfl) (by kernel_rfl) (Below.refl _ _) ?_
            repeat (go_big_quiet_step (fail))
            go_big_quiet_step (exact hS _)
            repeat (go_big_quiet_step (fail))
            refine wpQuiet_nil ?_
            rintro w7 ⟨U, rfl⟩
            have HY := HTX.out U
            have HY1 : Hid (Tx U.val (.slice ua n uc) (mnd l n)) := HY.1
            have HY2 : Hid (Below w.heap.size w U.val) := HY.2
            generalize U.val = w7 at *
            clear x0 x1 z1 hne HTX HY hS hcf
            go_wp2_with fail
            go_roundw
            case rel => exact ⟨k + 1, 6, by omega, by go_num, by rw [HC1.out]; go_num, rfl, HZn, HY1, HY2⟩
            case measure => simp only [intOf]; omega
    · obtain rfl : k = N := by omega
      have hcall := H3.out z HZ.out wr HB.out
      generalize Fd.cnt (hasF l) k = cn at *
      go_wp2_with fail
      refine hcall.mono ?_
      rintro e w3 ⟨rfl, hb⟩
      have HB3 : Hid (Below w.heap.size w w3) := HB.out.trans (hb.mono HB.out.size)
      clear hb hcall
      go_wp2_with fail
      go_ret
      exact ⟨rfl, HB3.out⟩

theorem shieldMends_walk (v0 : Value) (l0 : List Shd) (a1 : Int) (z0 : l0.length ≤ 140737488351232) (_w1 : (Lit.int .i64 a1).wf = true) (w : World) (t0 : Sx w v0 l0) :
    Calls Try.prog 4 #[v0, .int .i64 a1] w fun e w' => e = .returned (.bool true) ∧ Below w.heap.size w w' := by
  by_cases he : mErr l0 a1 = 0
  · obtain ⟨n, rfl⟩ := Int.eq_ofNat_of_zero_le (a := a1) (by have := mErr_zero he; omega)
    exact shieldMends_ok v0 l0 n w t0 he
  · exact shieldMends_bad v0 l0 a1 w t0 z0 he
end Go.Proofs.Ytoeohnknpbdgdaa
