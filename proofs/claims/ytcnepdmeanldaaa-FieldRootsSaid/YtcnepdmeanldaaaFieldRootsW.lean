/-
  The walk of lumkeep.FieldRoots: it returns true.
-/
import Derived.Test.YtcnepdmeanldaaaFdOpen
namespace Go.Proofs.Ytcnepdmeanldaaa
open Go.RowKit
set_option maxRecDepth 4000

theorem bys_two (w : World) : Bys (w.alloc (.cells #[.int .u8 1, .int .u8 1] 5)) (.slice (some ⟨w.heap.size, 0, none⟩) 2 2) [1, 1] := by
  refine ⟨.inr ⟨w.heap.size, 0, 2, rfl, by simp, fun j hj => ?_⟩, _, _, _, rfl, Nat.le_refl _, by omega⟩
  have hj : j < 2 := hj
  match j, hj with
  | 0, _ => simp
  | 1, _ => simp
theorem at_two (w : World) : Calls Try.prog 15 #[.slice (some ⟨w.heap.size, 0, none⟩) 2 2, .int .u8 2] (w.alloc (.cells #[.int .u8 1, .int .u8 1] 5)) fun e w' => e = .returned (.int .u8 3) ∧ Below w.heap.size w w' := by
  have hb : Below w.heap.size w (w.alloc (.cells #[.int .u8 1, .int .u8 1] 5)) := (Below.refl _ _).alloc (Nat.le_refl _) _
  have h3 : Fd.hv [1, 1] 2 = 3 := by decide +kernel
  refine (at_any _ [1, 1] 2 _ (bys_two w) (by simp) (fun c hc => by simp at hc; omega) (by omega)).mono ?_
  rintro e w' ⟨rfl, h⟩
  exact ⟨by rw [h3]; rfl, hb.trans (h.mono hb.size)⟩

namespace Fd
/-- the sum of two polynomials, its first k places -/
def bth (l m : List Nat) (N k : Nat) : List Nat := (List.range N).map fun j => if j < k then l.getD j 0 ^^^ m.getD j 0 else 0
theorem bth_length (l m : List Nat) (N k : Nat) : (bth l m N k).length = N := by simp [bth]
theorem bth_zero (l m : List Nat) (N : Nat) : bth l m N 0 = List.replicate N 0 := by
  refine List.ext_getElem (by simp [bth]) fun j h1 h2 => ?_
  simp [bth]
theorem bth_set (l m : List Nat) (N k : Nat) : bth l m N (k + 1) = (bth l m N k).set k (l.getD k 0 ^^^ m.getD k 0) := by
  refine List.ext_getElem (by simp [bth]) fun j h1 h2 => ?_
  have hj : j < N := by simpa [bth] using h1
  rw [List.getElem_set]
  by_cases e : k = j
  · subst e
    simp [bth]
  · rw [if_neg e]
    simp only [bth, List.getElem_map, List.getElem_range]
    by_cases h : j < k
    · rw [if_pos h, if_pos (by omega)]
    · rw [if_neg h, if_neg (by omega)]
theorem bth_all (l m : List Nat) (N : Nat) (hl : N ≤ l.length) (hm : N ≤ m.length) : bth l m N N = List.zipWith (· ^^^ ·) (l.take N) (m.take N) := by
  refine List.ext_getElem (by simp [bth]; omega) fun j h1 h2 => ?_
  have hj : j < N := by simpa [bth] using h1
  simp only [bth, List.getElem_map, List.getElem_range, if_pos hj, List.getElem_zipWith, List.getElem_take]
  rw [List.getD_eq_getElem?_getD, List.getD_eq_getElem?_getD, List.getElem?_eq_getElem (by omega), List.getElem?_eq_getElem (by omega)]
  rfl
theorem bs_take {l : List Nat} (h : Bs l) (k : Nat) : Bs (l.take k) := fun c hc => h c (List.mem_of_mem_take hc)
theorem bth_bs {l m : List Nat} (hl : Bs l) (hm : Bs m) (N k : Nat) : Bs (bth l m N k) := by
  intro c hc
  obtain ⟨j, _, rfl⟩ := List.mem_map.1 hc
  show (if j < k then l.getD j 0 ^^^ m.getD j 0 else 0) < 256
  split
  · exact Nat.xor_lt_two_pow (n := 8) (bs_get hl j) (bs_get hm j)
  · omega
theorem bth_hv {l m : List Nat} {N : Nat} (hl : N ≤ l.length) (hm : N ≤ m.length) (x : Nat) : hv (bth l m N N) x = hv (l.take N) x ^^^ hv (m.take N) x := by
  rw [bth_all l m N hl hm, hv_xor _ _ (by rw [List.length_take, List.length_take]; omega)]
/-- the last place below k that isn't 0 -/
def Dg (l : List Nat) (k : Nat) (d : Int) : Prop := d = -1 ∧ (∀ j, j < k → l.getD j 0 = 0) ∨ ∃ e : Nat, d = e ∧ e < k ∧ l.getD e 0 ≠ 0 ∧ ∀ j, e < j → j < k → l.getD j 0 = 0
theorem Dg.yes {l : List Nat} {k : Nat} {d : Int} (_ : Dg l k d) (h : l.getD k 0 ≠ 0) : Dg l (k + 1) k :=
  .inr ⟨k, rfl, by omega, h, fun j h1 h2 => by omega⟩
theorem Dg.no {l : List Nat} {k : Nat} {d : Int} (hd : Dg l k d) (h : l.getD k 0 = 0) : Dg l (k + 1) d := by
  rcases hd with ⟨h1, h2⟩ | ⟨e, h1, h2, h3, h4⟩
  · refine .inl ⟨h1, fun j hj => ?_⟩
    by_cases e : j = k
    · rw [e]; exact h
    · exact h2 j (by omega)
  · refine .inr ⟨e, h1, by omega, h3, fun j hj1 hj => ?_⟩
    by_cases e : j = k
    · rw [e]; exact h
    · exact h4 j hj1 (by omega)
theorem Dg.bound {l : List Nat} {k : Nat} {d : Int} (hd : Dg l k d) : -1 ≤ d ∧ d < k := by
  rcases hd with ⟨h1, _⟩ | ⟨e, h1, h2, _⟩ <;> omega
theorem Dg.roots {l : List Nat} {d : Int} (hb : Bs l) (hd : Dg l l.length d) : d < 0 ∧ rts l 256 = 256 ∨ 0 ≤ d ∧ (rts l 256 : Int) ≤ d := by
  have g : ∀ j (h : j < l.length), l.getD j 0 = l[j] := fun j h => by rw [List.getD_eq_getElem?_getD, List.getElem?_eq_getElem h]; rfl
  rcases hd with ⟨h1, h2⟩ | ⟨e, h1, h2, h3, h4⟩
  · refine .inl ⟨by omega, rts_all (fun c hc => ?_) 256⟩
    obtain ⟨j, hj, rfl⟩ := List.getElem_of_mem hc
    rw [← g j hj]
    exact h2 j hj
  · refine .inr ⟨by omega, ?_⟩
    have := rts_degree hb h2 (by rw [← g e h2]; exact h3) (fun i hi hei => by rw [← g i hi]; exact h4 i hei hi)
    omega
theorem rts_bound (l : List Nat) : ∀ k, rts l k ≤ k
  | 0 => Nat.le_refl _
  | k + 1 => by
    have := rts_bound l k
    rw [rts]
    split <;> omega
end Fd

theorem made_bytes {base g n : Nat} {w : World} (h : w.ownsRow base 5 1 (.slice (some ⟨g, 0, none⟩) n n) n (madeCells (Value.int .u8 0).cells (n * 1)).toList) :
    w.ownsRow base 5 1 (.slice (some ⟨g, 0, none⟩) n n) n ((List.replicate n (0 : Nat)).map Bv) := by
  have e : (madeCells (Value.int .u8 0).cells (n * 1)).toList = (List.replicate n (0 : Nat)).map Bv := by
    rw [Nat.mul_one]
    refine List.ext_getElem (by simp [size_madeCells]) fun i h1 h2 => ?_
    simp [madeCells, Value.cells, Bv, Nat.mod_one]
  rw [← e]
  exact h
/-- a byte stored in a row of one's own -/
theorem byte_store {base g n cap : Nat} {w : World} {l : List Nat} (h : w.ownsRow base 5 1 (.slice (some ⟨g, 0, none⟩) n cap) n (l.map Bv)) (k : Nat) (x : Nat) :
    (w.setCell ⟨g, k, none⟩ (.int .u8 (x : Nat))).ownsRow base 5 1 (.slice (some ⟨g, 0, none⟩) n cap) n ((l.set k x).map Bv) := by
  have := (h.stored k (.int .u8 (x : Nat))).1
  rw [List.map_set]
  exact this
theorem byte_at {base g n cap : Nat} {w : World} {l : List Nat} (h : w.ownsRow base 5 1 (.slice (some ⟨g, 0, none⟩) n cap) n (l.map Bv)) (k : Nat) (hk : k < l.length) :
    w.cell? ⟨g, k, none⟩ = some (.int .u8 (l[k] : Nat)) := by
  have hn : l.length = n := by have := h.1; simpa using this
  rw [h.cellAt k (by omega), List.getElem?_map, List.getElem?_eq_getElem hk]
  rfl

set_option maxHeartbeats 4000000 in
theorem fieldRoots_of (sa su : Option Addr) (ca cu : Nat) (l m : List Nat) (x : Nat) (w : World)
    (hv : Hid (Bys w (.slice sa l.length ca) l)) (hu : Hid (Bys w (.slice su m.length cu) m)) (hl : l.length ≤ 140737488351232) (hca : l.length ≤ ca) (hcu : m.length ≤ cu) (bl : Hid (Fd.Bs l)) (bm : Hid (Fd.Bs m)) (hx256 : x < 256) :
    Calls Try.prog 7 #[.slice sa l.length ca, .slice su m.length cu, .int .u8 x] w fun e w' => e = .returned (.bool true) ∧ Below w.heap.size w w' := by
  obtain ⟨i0, hi, hz0, hz1, hz2⟩ := info_parts info_u8
  go_enter Try.func7, Try.ntmps7
  go_wp2_with fail
  refine (at_two _).mono ?_
  rintro e w1 ⟨rfl, hb1⟩
  have HB : Hid (Below w.heap.size w w1) := hb1
  clear hb1
  obtain ⟨N, hN⟩ : ∃ N, N = min l.length m.length := ⟨_, rfl⟩
  have hNl : N ≤ l.length := by omega
  have hNm : N ≤ m.length := by omega
  go_upto_region 3 with fail
  go_cut [7] from 17 (fun y wx => y = .int .i64 (N : Nat) ∧ wx = w1)
  case first =>
    have HN : Hid (N = min l.length m.length) := hN
    clear hN hNl hNm hca hcu
    go_wp2_with fail
    all_goals
      go_meet
      exact ⟨int_eq (by have := HN.out; omega), rfl⟩
  case rest =>
    obtain ⟨rfl, rfl⟩ := hcut
    clear hN
    go_wp2_with (at_make; refine wpList_make_full _ rfl (.tmp 23) (.tmp 23) 22 rfl wc.heap.size 5 i0 (.int .u8 0) 1 Try.underlying22 hi hz0 hz1 .i64 .i64 _ _ N rfl rfl rfl rfl (by rw [hz2]; omega) (by unfold maxLen; omega) (Nat.le_refl _) ?_; intro w2 hown hgrow)
    have hown1 := made_bytes hown
    rw [← Fd.bth_zero l m N] at hown1
    have HB1 : Hid (Below w.heap.size w w2) := HB.out.trans (((Below.refl _ _).grown hgrow (Nat.le_refl _) (fun k hk => by cases hk)).mono HB.out.size)
    have hwc : w.heap.size ≤ wc.heap.size := HB.out.size
    clear hown hgrow HB hi hz0 hz1 hz2
    go_wp2_with fail
    go_loopw [27] (fun i wr => ∃ k : Nat, k ≤ N ∧ i = .int .i64 k ∧ wr.ownsRow wc.heap.size 5 1 (.slice (some ⟨wc.heap.size, 0, none⟩) N N) N ((Fd.bth l m N k).map Bv) ∧ Hid (Below w.heap.size w wr)) (fun i _ => N - (intOf i).toNat)
    case atStart => exact ⟨0, by omega, rfl, hown1, HB1⟩
    case round =>
      clear hown1 HB1
      obtain ⟨k, hk, rfl, hown, HB⟩ := hrel
      by_cases hlt : k < N
      · obtain ⟨bk, o, rfl, hbk, c0⟩ := (hv.out.below (Nat.le_refl _) HB.out).get k (by omega)
        obtain ⟨bc, oc, rfl, hbc, c1⟩ := (hu.out.below (Nat.le_refl _) HB.out).get k (by omega)
        have hx := u8_xor_nat _ _ (Fd.bs_get bl.out k) (Fd.bs_get bm.out k)
        have y1 := byte_at hown k (by rw [Fd.bth_length]; exact hlt)
        have y2 := hown.frozenAt k
        have HO := byte_store hown k (l.getD k 0 ^^^ m.getD k 0)
        rw [← Fd.bth_set] at HO
        generalize (Fd.bth l m N k)[k]'(by rw [Fd.bth_length]; exact hlt) = old at *
        generalize l.getD k 0 = n1 at *
        generalize m.getD k 0 = n2 at *
        have HO' : Hid ((wr.setCell ⟨wc.heap.size, k, none⟩ (.int .u8 ((n1 ^^^ n2 : Nat) : Int))).drew.ownsRow wc.heap.size 5 1 (.slice (some ⟨wc.heap.size, 0, none⟩) N N) N ((Fd.bth l m N (k + 1)).map Bv)) := HO.drew
        have HB2 : Hid (Below w.heap.size w (wr.setCell ⟨wc.heap.size, k, none⟩ (.int .u8 ((n1 ^^^ n2 : Nat) : Int))).drew) := (HB.out.setCell hwc _).drew
        have hkl : k < l.length := by omega
        have hkm : k < m.length := by omega
        clear HO hown HB
        go_wp2_with fail
        go_region
        go_wp2_with fail
        go_roundw
        case rel => exact ⟨k + 1, by omega, by go_num, HO'.out, HB2⟩
        case measure => simp only [intOf]; omega
      · obtain rfl : k = N := by omega
        have q1 : ∀ X : Since wr.heap.size wr, Calls Try.prog 15 #[.slice (some ⟨wc.heap.size, 0, none⟩) k k, .int .u8 x] X.val fun e w'' => e = .returned (.int .u8 (Fd.hv (Fd.bth l m k k) x : Nat)) ∧ ∃ Y : Since wr.heap.size wr, w'' = Y.val := fun X =>
          quiet_since X (at_any _ (Fd.bth l m k k) x X.val ((Bys.of_own (by rw [Fd.bth_length]; exact hown)).below (Nat.le_refl _) X.property) (by rw [Fd.bth_length]; omega) (Fd.bth_bs bl.out bm.out k k) hx256)
        have q2 : ∀ X : Since wr.heap.size wr, Calls Try.prog 15 #[.slice sa k ca, .int .u8 x] X.val fun e w'' => e = .returned (.int .u8 (Fd.hv (l.take k) x : Nat)) ∧ ∃ Y : Since wr.heap.size wr, w'' = Y.val := fun X =>
          quiet_since X (at_any _ (l.take k) x X.val (((hv.out.below (Nat.le_refl _) HB.out).below (Nat.le_refl _) X.property).take k hNl) (by rw [List.length_take]; omega) (Fd.bs_take bl.out k) hx256)
        have q3 : ∀ X : Since wr.heap.size wr, Calls Try.prog 15 #[.slice su k cu, .int .u8 x] X.val fun e w'' => e = .returned (.int .u8 (Fd.hv (m.take k) x : Nat)) ∧ ∃ Y : Since wr.heap.size wr, w'' = Y.val := fun X =>
          quiet_since X (at_any _ (m.take k) x X.val (((hu.out.below (Nat.le_refl _) HB.out).below (Nat.le_refl _) X.property).take k hNm) (by rw [List.length_take]; omega) (Fd.bs_take bm.out k) hx256)
        have hxx := u8_xor_nat _ _ (Fd.hv_lt (Fd.bs_take bl.out k) hx256) (Fd.hv_lt (Fd.bs_take bm.out k) hx256)
        rw [← Fd.bth_hv hNl hNm x] at hxx
        generalize Fd.hv (Fd.bth l m k k) x = s1 at *
        generalize Fd.hv (l.take k) x = s2 at *
        generalize Fd.hv (m.take k) x = s3 at *
        have hne : Nonempty (Since wr.heap.size wr) := ⟨⟨wr, Below.refl _ _⟩⟩
        have hkca : k ≤ ca := by omega
        have hkcu : k ≤ cu := by omega
        clear hown hwc hca hcu hk hlt
        go_wp2_with fail
        refine wp_region_since (B := wr.heap.size) (W0 := wr) (by kernel_rfl) (by kernel_rfl) (Below.refl _ _) ?_
        repeat (go_big_quiet_step (fail))
        go_big_quiet_step (exact q1 _)
        repeat (go_big_quiet_step (fail))
        go_big_quiet_step (exact q2 _)
        repeat (go_big_quiet_step (fail))
        go_big_quiet_step (exact q3 _)
        repeat (go_big_quiet_step (fail))
        refine wpQuiet_nil ?_
        rintro w7 ⟨U, rfl⟩
        have HB3 : Hid (Below w.heap.size w U.val) := HB.out.trans (U.property.mono HB.out.size)
        generalize U.val = w7 at *
        clear q1 q2 q3 hne HB hkca hkcu
        go_wp2_with fail
        clear hNl hNm hxx
        have HD0 : Hid (Fd.Dg l 0 (-1)) := .inl ⟨rfl, fun j hj => by omega⟩
        go_loop [10, 60] (fun d i => ∃ (j : Nat) (e : Int), j ≤ l.length ∧ i = .int .i64 j ∧ d = .int .i64 e ∧ Hid (Fd.Dg l j e)) (fun _ i => l.length - (intOf i).toNat)
        case atStart => exact ⟨0, -1, by omega, rfl, rfl, HD0⟩
        case round =>
          clear HD0
          obtain ⟨j, d, hj, rfl, rfl, HD⟩ := hrel
          by_cases hlt : j < l.length
          · obtain ⟨bk, o, rfl, hbk, c0⟩ := (hv.out.below (Nat.le_refl _) HB3.out).get j hlt
            by_cases h0 : l.getD j 0 = 0
            · have HDn : Hid (Fd.Dg l (j + 1) d) := HD.out.no h0
              have hq : (((l.getD j 0 : Nat) : Int) != 0) = false := by rw [h0]; rfl
              generalize l.getD j 0 = n1 at *
              clear h0
              go_wp2_with fail
              go_round
              case rel => exact ⟨j + 1, d, by omega, by go_num, rfl, HDn⟩
              case measure => simp only [intOf]; omega
            · have HDn : Hid (Fd.Dg l (j + 1) j) := HD.out.yes h0
              have hq : (((l.getD j 0 : Nat) : Int) != 0) = true := by rw [bne_iff_ne]; omega
              generalize l.getD j 0 = n1 at *
              clear h0
              go_wp2_with fail
              go_round
              case rel => exact ⟨j + 1, j, by omega, by go_num, rfl, HDn⟩
              case measure => simp only [intOf]; omega
          · obtain rfl : j = l.length := by omega
            have HR : Hid (∀ R, R = Fd.rts l 256 → d < 0 ∧ R = 256 ∨ 0 ≤ d ∧ (R : Int) ≤ d) := fun R hR => by rw [hR]; exact HD.out.roots bl.out
            have hdb := HD.out.bound
            clear HD hlt
            go_wp2_with fail
            go_loopw [11, 69] (fun r i wr => ∃ t : Nat, t ≤ 256 ∧ i = .int .i64 t ∧ r = .int .i64 (Fd.rts l t : Nat) ∧ Hid (Below w.heap.size w wr)) (fun _ i _ => 256 - (intOf i).toNat)
            case atStart => exact ⟨0, by omega, rfl, rfl, HB3⟩
            case round =>
              clear HB3
              obtain ⟨t, ht, rfl, rfl, HB⟩ := hrel
              have htb := Fd.rts_bound l t
              by_cases hlt : t < 256
              · have hc := at_any _ l t wr (hv.out.below (Nat.le_refl _) HB.out) hl bl.out hlt
                by_cases h0 : Fd.hv l t = 0
                · have HT : Hid (Fd.rts l (t + 1) = Fd.rts l t + 1) := by show _ = _; rw [Fd.rts, if_pos h0]
                  rw [h0] at hc
                  clear h0 HR
                  generalize Fd.rts l t = R at *
                  go_wp2_with fail
                  refine hc.mono ?_
                  rintro e w8 ⟨rfl, hb8⟩
                  have HB8 : Hid (Below w.heap.size w w8) := HB.out.trans (hb8.mono HB.out.size)
                  clear hb8 HB hc
                  go_wp2_with fail
                  go_roundw
                  case rel => exact ⟨t + 1, by omega, by go_num, by rw [HT.out]; go_num, HB8⟩
                  case measure => simp only [intOf]; omega
                · have HT : Hid (Fd.rts l (t + 1) = Fd.rts l t) := by show _ = _; rw [Fd.rts, if_neg h0]; rfl
                  have hq : ((Fd.hv l t : Int) == 0) = false := by rw [beq_eq_false_iff_ne]; omega
                  clear h0 HR
                  generalize Fd.rts l t = R at *
                  generalize Fd.hv l t = H at *
                  go_wp2_with fail
                  refine hc.mono ?_
                  rintro e w8 ⟨rfl, hb8⟩
                  have HB8 : Hid (Below w.heap.size w w8) := HB.out.trans (hb8.mono HB.out.size)
                  clear hb8 HB hc
                  go_wp2_with fail
                  go_roundw
                  case rel => exact ⟨t + 1, by omega, by go_num, by rw [HT.out], HB8⟩
                  case measure => simp only [intOf]; omega
              · obtain rfl : t = 256 := by omega
                have hr := HR.out _ rfl
                clear HR
                generalize Fd.rts l 256 = R at *
                rcases hr with ⟨h1, rfl⟩ | ⟨h1, h2⟩
                · go_wp2_with fail
                  go_ret
                  exact ⟨rfl, HB.out⟩
                · have h3 : ¬ d < 0 := by omega
                  go_wp2_with fail
                  go_ret
                  exact ⟨rfl, HB.out⟩

theorem fieldRoots_walk (v0 : Value) (l0 : List Nat) (v1 : Value) (l1 : List Nat) (a2 : Int) (z0 : l0.length ≤ 140737488351232) (f0 : Fd.Bs l0) (_z1 : l1.length ≤ 140737488351232) (f1 : Fd.Bs l1) (w2 : (Lit.int .u8 a2).wf = true) (w : World) (t0 : Bys w v0 l0) (t1 : Bys w v1 l1) :
    Calls Try.prog 7 #[v0, v1, .int .u8 a2] w fun e w' => e = .returned (.bool true) ∧ Below w.heap.size w w' := by
  obtain ⟨x, rfl, hx⟩ := wf_byte w2
  have hr : ∀ {v : Value} {l : List Nat}, Bys w v l → ∃ a c, v = .slice a l.length c ∧ l.length ≤ c := fun {v l} h => by
    obtain ⟨a, n, c, e, h1, _⟩ := h.room
    obtain ⟨a2, c2, e2⟩ := h.slice
    rw [e, Value.slice.injEq] at e2
    obtain ⟨rfl, rfl, rfl⟩ := e2
    exact ⟨a, c, e, h1⟩
  obtain ⟨sa, ca, rfl, hca⟩ := hr t0
  obtain ⟨su, cu, rfl, hcu⟩ := hr t1
  exact fieldRoots_of sa su ca cu l0 l1 x w t0 t1 z0 hca hcu f0 f1 hx
end Go.Proofs.Ytcnepdmeanldaaa
