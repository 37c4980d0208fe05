/-
  What Add and Has of package bloom answer.
-/
import Derived.Test.YtpagbihebahnnaaBlMem
import Derived.Deep.Cut
import Derived.Deep.RegionWith
namespace Go.Proofs.Ytpagbihebahnnaa
open Go.RowKit
set_option maxRecDepth 4000

theorem info_id8 {x : List UInt8} (h : x.length = 8) : (Try.prog.info? 26).map (·.size) = some (idC x).length := by
  rw [idC, List.length_map, h]; kernel_rfl
theorem idC_at {w : World} {x : List UInt8} {t : TypeId} : (w.alloc (.cells (idC x).toArray t)).rangeAt w.heap.size 0 (idC x) := fun j v hv => by
  rw [Nat.zero_add, cell_of_row _ w.heap.size j _ _ _ (heap_alloc_new w _), List.getElem?_toArray]
  exact hv
theorem rng_below {W W' : World} {G B : Nat} {cs : List Value} (h : W.rangeAt G 0 cs) (hb : Below B W W') (hg : G < B) : W'.rangeAt G 0 cs := fun j v hv => by
  rw [hb.cell (p := ⟨G, 0 + j, none⟩) hg]
  exact h j v hv
/-- Add at work: the words in their block, room for the answer behind it -/
structure AS (w W : World) (b : List Nat) : Prop where
  b0 : Bb W w.heap.size b
  res : Bb W (w.heap.size + 1 + 1) Bm.none_
  bel : Below w.heap.size w W
theorem AS.past {w W W' : World} {b : List Nat} (h : AS w W b) (hb : Below W.heap.size W W') : AS w W' b :=
  ⟨h.b0.past hb, h.res.past hb, h.bel.trans (hb.mono h.bel.size)⟩
theorem AS.drew {w W : World} {b : List Nat} (h : AS w W b) : AS w W.drew b := ⟨h.b0.drew, h.res.drew, h.bel.drew⟩
theorem AS.set {w W : World} {b : List Nat} (h : AS w W b) {k n : Nat} (hk : k < 16) (hn : n < 18446744073709551616) : AS w (W.setCell ⟨w.heap.size, k, none⟩ (.int .u64 (n : Int))) (b.set k n) :=
  ⟨h.b0.set hk hn, h.res.setOther (by show w.heap.size ≠ _; omega) _, h.bel.setCell (Nat.le_refl _) _⟩
theorem puts_next {b ms : List Nat} {j : Nat} (hj : j < ms.length) : Bm.puts b (ms.take (j + 1)) = Bm.put (Bm.puts b (ms.take j)) (ms.getD j 0) := by
  rw [List.take_succ_eq_append_getElem hj, Bm.puts, List.foldl_append, List.getD_eq_getElem?_getD, List.getElem?_eq_getElem hj]
  rfl
theorem get_lt {ms : List Nat} (h : ∀ k ∈ ms, k < 1024) {j : Nat} (hj : j < ms.length) : ms.getD j 0 < 1024 := by
  rw [List.getD_eq_getElem?_getD, List.getElem?_eq_getElem hj]
  exact h _ (List.getElem_mem hj)

set_option maxHeartbeats 1000000 in
theorem add_of (b : List Nat) (x : List UInt8) (ms : List Nat) (w : World) (hb : Bm.Ok b) (hx : x.length = 8) (hm4 : ms.length = 4) (hlt : ∀ k ∈ ms, k < 1024)
    (hm : ∀ W, Calls Try.prog 13 #[.agg (idC x).toArray] W fun e w' => e = .returned (.agg (ms.map U).toArray) ∧ Below W.heap.size W w') :
    Calls Try.prog 7 #[.agg (blmC b).toArray, .agg (idC x).toArray] w fun e w' => e = .returned (.agg (blmC (Bm.puts b ms)).toArray) ∧ Below w.heap.size w w' := by
  have hlen := blmC_length hb
  have hlen2 : (idC x).length = 8 := by rw [idC, List.length_map, hx]
  obtain ⟨W2, hW2⟩ : ∃ W2, W2 = ((w.alloc (.cells (blmC b).toArray 24)).alloc (.cells (idC x).toArray 26)).alloc (.cells Z16 24) := ⟨_, rfl⟩
  have HA : Hid (AS w W2 b) := by
    show AS w W2 b
    rw [hW2]
    refine ⟨((Bb.new hb w _).alloc _).alloc _, ?_, (((Below.refl _ w).alloc (Nat.le_refl _) _).alloc (by simp) _).alloc (by simp; omega) _⟩
    have := Bb.zero ((w.alloc (.cells (blmC b).toArray 24)).alloc (.cells (idC x).toArray 26)) 24
    rwa [World.size_alloc, World.size_alloc] at this
  have HI : Hid (W2.rangeAt (w.heap.size + 1) 0 (idC x)) := by
    show W2.rangeAt (w.heap.size + 1) 0 (idC x)
    rw [hW2]
    have := idC_at (w := w.alloc (.cells (blmC b).toArray 24)) (x := x) (t := 26)
    rw [World.size_alloc] at this
    exact rng_below this ((Below.refl _ _).alloc (Nat.le_refl _) _) (by simp)
  have HL : Hid (∀ k ∈ ms, k < 1024) := hlt
  have HM : Hid (ms.length = 4) := hm4
  clear hlt hm4
  dsimp only [Z16] at hW2
  go_enter Try.func7, Try.ntmps7
  go_upto_region 1 with fail
  rw [← hW2]
  clear hW2 hlen hlen2
  refine wp_region_lit ?_
  refine wpList_load_mid rfl 26 (.tmp 3) rfl (w.heap.size + 1) 0 rfl (idC x) _ HI.out Try.underlying26 rfl (info_id8 hx) ?_
  clear HI
  go_wp2_with fail
  refine (hm _).mono ?_
  rintro e w1 ⟨rfl, hb1⟩
  have HA1 : Hid (AS w w1 b) := HA.out.past hb1
  clear hb1 HA hm
  go_wp2_with fail
  go_loopw [9] (fun i wr => ∃ j : Nat, j ≤ 4 ∧ i = .int .i64 j ∧ Hid (AS w wr (Bm.puts b (ms.take j)))) (fun i _ => 4 - (intOf i).toNat)
  case atStart => exact ⟨0, by omega, rfl, HA1⟩
  case round =>
    obtain ⟨i, hi, rfl, HA⟩ := hrel
    by_cases hlt : i < 4
    · have hix := fun W => run_ix4 ms i W HM.out hlt
      have hk := get_lt HL.out (j := i) (by rw [HM.out]; exact hlt)
      have HN : Hid (Bm.puts b (ms.take (i + 1)) = Bm.put (Bm.puts b (ms.take i)) (ms.getD i 0)) := puts_next (by rw [HM.out]; exact hlt)
      generalize Bm.puts b (ms.take i) = c at *
      generalize ms.getD i 0 = k at *
      obtain ⟨q, hq, hq16⟩ : ∃ q : Nat, (k : Int) / 64 = (q : Int) ∧ q < 16 := ⟨k / 64, by omega, by omega⟩
      have hqi : (q : Int) < 16 := by omega
      have hqw : IntKind.u64.wrap (q : Int) = (q : Int) := wrap_u64 _ (by omega) (by omega)
      have HQ : Hid (k / 64 = q) := by show _ = _; omega
      have c0 := HA.out.b0.at_ q hq16
      have f0 := HA.out.b0.fz q hq16
      have hbit := fun W => bbit_any k W hk
      have hp := pow_lt64 k
      have hv := HA.out.b0.ok.get q
      have hor := u64_or_nat (c.getD q 0) (2 ^ (k % 64)) hv hp
      have HS : Hid (Bm.put c k = c.set q (c.getD q 0 ||| 2 ^ (k % 64))) := by show Bm.put c k = _; rw [Bm.put, HQ.out]
      have HO : Hid (c.getD q 0 ||| 2 ^ (k % 64) < 18446744073709551616) := Nat.or_lt_two_pow (n := 64) hv hp
      generalize c.getD q 0 ||| 2 ^ (k % 64) = n at *
      generalize 2 ^ (k % 64) = p at *
      generalize c.getD q 0 = v at *
      go_upto_region 4 with fail
      go_region_with (refine (hbit _).mono ?_; rintro e w1 ⟨rfl, rfl⟩)
      all_goals
        go_wp2_with fail
        go_roundw
        case rel => exact ⟨i + 1, by omega, by go_num, by rw [HN.out, HS.out]; exact (HA.out.set hq16 HO.out).drew⟩
        case measure => simp only [intOf]; omega
    · obtain rfl : i = 4 := by omega
      rw [show ms.take 4 = ms from List.take_of_length_le (Nat.le_of_eq HM.out)] at HA
      go_upto_region 6 with fail
      refine wp_region_lit ?_
      refine wpList_load_mid rfl 24 (.tmp 2) rfl w.heap.size 0 rfl (blmC (Bm.puts b ms)) _ HA.out.b0.rng Try.underlying24 rfl (info_blmC HA.out.b0.ok) ?_
      refine wpList_store_mid rfl 24 (.tmp 4) (.tmp 21) rfl (w.heap.size + 1 + 1) 0 (blmC (Bm.puts b ms)).toArray rfl rfl (HA.out.res.thereA HA.out.b0.ok) (info_blmA HA.out.b0.ok) (blmC_all _) ?_
      have HR := HA.out.res.store HA.out.b0.ok
      have HB := below_setCells' (w.heap.size + 1 + 1) (by omega) (blmC (Bm.puts b ms)) 0 _ HA.out.bel
      have hlv := run_loadVar_mid (P := Try.prog) _ _ _ 24 (blmC (Bm.puts b ms)) _ HR.rng Try.underlying24 rfl (info_blmC HA.out.b0.ok)
      rw [show (blmC (Bm.puts b ms)).toArray.toList = blmC (Bm.puts b ms) from rfl]
      generalize wr.setCells (w.heap.size + 1 + 1) 0 (blmC (Bm.puts b ms)) = w9 at *
      clear HA
      go_wp2_with fail
      refine bodyPost_ret (v := .agg (blmC (Bm.puts b ms)).toArray) ?_ rfl ⟨rfl, HB⟩
      simp [results, asAddr, Act.put, hlv]
theorem add_any (b : List Nat) (x : List UInt8) (w : World) (hb : Bm.Ok b) (hx : x.length = 8) :
    Calls Try.prog 7 #[.agg (blmC b).toArray, .agg (idC x).toArray] w fun e w' => e = .returned (.agg (blmC (Bm.puts b (Bm.marks x))).toArray) ∧ Below w.heap.size w w' :=
  add_of b x (Bm.marks x) w hb hx rfl (Bm.marks_lt x) fun W => marks_any x W hx
end Go.Proofs.Ytpagbihebahnnaa
