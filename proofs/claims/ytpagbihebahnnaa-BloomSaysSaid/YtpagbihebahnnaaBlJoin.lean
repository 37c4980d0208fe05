/-
  What Join of package bloom answers.
-/
import Derived.Test.YtpagbihebahnnaaBlMem
import Derived.Test.YtpagbihebahnnaaRxMem
import Derived.Deep.Cut
namespace Go.Proofs.Ytpagbihebahnnaa
open Go.RowKit
set_option maxRecDepth 4000

namespace Bm
/-- the first i words of b laid over c -/
def jw (b : List Nat) : Nat → List Nat → List Nat
  | 0, c => c
  | i + 1, c => (jw b i c).set i ((jw b i c).getD i 0 ||| b.getD i 0)
theorem jw_len (b : List Nat) : ∀ (i : Nat) (c : List Nat), (jw b i c).length = c.length
  | 0, _ => rfl
  | i + 1, c => by rw [jw, List.length_set, jw_len b i c]
theorem jw_ok {b : List Nat} (hb : Ok b) : ∀ (i : Nat) {c : List Nat}, Ok c → Ok (jw b i c)
  | 0, _, h => h
  | i + 1, c, h => by
    have h1 := jw_ok hb i h
    refine ⟨by rw [jw_len]; exact h.len, fun x hx => ?_⟩
    rcases List.mem_or_eq_of_mem_set hx with e | e
    · exact h1.lt x e
    · rw [e]; exact Nat.or_lt_two_pow (n := 64) (h1.get i) (hb.get i)
theorem jw_get (b : List Nat) {c : List Nat} (hc : c.length = 16) : ∀ (i k : Nat), i ≤ 16 → k < 16 → (jw b i c).getD k 0 = if k < i then c.getD k 0 ||| b.getD k 0 else c.getD k 0
  | 0, k, _, _ => by rw [if_neg (by omega)]; rfl
  | i + 1, k, hi, hk => by
    have h1 := jw_get b hc i k (by omega) hk
    rw [jw, List.getD_eq_getElem?_getD, List.getElem?_set]
    by_cases e : i = k
    · subst e
      rw [if_pos rfl, if_pos (by rw [jw_len, hc]; exact hk), if_pos (by omega), Option.getD_some, h1, if_neg (by omega)]
    · rw [if_neg e, ← List.getD_eq_getElem?_getD, h1]
      by_cases f : k < i
      · rw [if_pos f, if_pos (by omega)]
      · rw [if_neg f, if_neg (by omega)]
theorem jw_all {b c : List Nat} (hb : Ok b) (hc : Ok c) : jw b 16 c = join c b := by
  refine ext (jw_ok hb 16 hc) (join_ok hc hb) fun k hk => ?_
  rw [join_bit hc hb]
  unfold bit
  rw [jw_get b hc.len 16 (k / 64) (by omega) (by omega), if_pos (by omega), Nat.testBit_or]
/-- all of them as one -/
def joins (l : List (List Nat)) : List Nat := l.foldl join none_
def Oks (l : List (List Nat)) : Prop := ∀ b ∈ l, Ok b
theorem joins_from_ok : ∀ (l : List (List Nat)) (c : List Nat), Oks l → Ok c → Ok (l.foldl join c)
  | [], _, _, h => h
  | b :: l, c, hl, h => joins_from_ok l (join c b) (fun x hx => hl x (List.mem_cons_of_mem _ hx)) (join_ok h (hl b List.mem_cons_self))
theorem joins_ok {l : List (List Nat)} (h : Oks l) : Ok (joins l) := joins_from_ok l none_ h none_ok
theorem joins_next (l : List (List Nat)) (j : Nat) (b : List Nat) (hj : l[j]? = some b) : joins (l.take (j + 1)) = join (joins (l.take j)) b := by
  obtain ⟨h, e⟩ := List.getElem?_eq_some_iff.1 hj
  rw [List.take_succ_eq_append_getElem h, e, joins, List.foldl_append]
  rfl
end Bm

/-- Join at work: what was joined so far in its block, room for the answer -/
structure JS (w W : World) (c : List Nat) : Prop where
  res : Bb W w.heap.size Bm.none_
  b1 : Bb W (w.heap.size + 1) c
  bel : Below w.heap.size w W
theorem JS.past {w W W' : World} {c : List Nat} (h : JS w W c) (hb : Below W.heap.size W W') : JS w W' c := ⟨h.res.past hb, h.b1.past hb, h.bel.trans (hb.mono h.bel.size)⟩
theorem JS.set {w W : World} {c : List Nat} (h : JS w W c) {k n : Nat} (hk : k < 16) (hn : n < 18446744073709551616) : JS w (W.setCell ⟨w.heap.size + 1, k, none⟩ (.int .u64 (n : Int))) (c.set k n) :=
  ⟨h.res.setOther (by show w.heap.size + 1 ≠ _; omega) _, h.b1.set hk hn, h.bel.setCell (by show w.heap.size ≤ w.heap.size + 1; omega) _⟩

set_option maxHeartbeats 2000000 in
theorem join_any (v : Value) (l : List (List Nat)) (w : World) (h : Rx 16 blmC w v l) (hl : Bm.Oks l) :
    Calls Try.prog 8 #[v] w fun e w' => e = .returned (.agg (blmC (Bm.joins l)).toArray) ∧ Below w.heap.size w w' := by
  obtain ⟨a, c, rfl, hlc, hcm⟩ := h.slice
  obtain ⟨W2, hW2⟩ : ∃ W2, W2 = (w.alloc (.cells Z16 24)).alloc (.cells Z16 24) := ⟨_, rfl⟩
  have HJ : Hid (JS w W2 (Bm.joins (l.take 0))) := by
    show JS w W2 Bm.none_
    rw [hW2]
    refine ⟨(Bb.zero w _).alloc _, ?_, ((Below.refl _ w).alloc (Nat.le_refl _) _).alloc (by simp) _⟩
    have := Bb.zero (w.alloc (.cells Z16 24)) 24
    rwa [World.size_alloc] at this
  have HL : Hid (Bm.Oks l) := hl
  have HR : Hid (Rx 16 blmC w (.slice a l.length c) l) := h
  clear hl h
  dsimp only [Z16] at hW2
  go_enter Try.func8, Try.ntmps8
  go_upto_region 2 with fail
  rw [← hW2]
  clear hW2
  go_wp2_with fail
  go_loopw [10] (fun i wr => ∃ j : Nat, j ≤ l.length ∧ i = .int .i64 j ∧ Hid (JS w wr (Bm.joins (l.take j)))) (fun i _ => l.length - (intOf i).toNat)
  case atStart => exact ⟨0, by omega, rfl, HJ⟩
  case round =>
    obtain ⟨i, hi, rfl, HA⟩ := hrel
    by_cases hlt : i < l.length
    · obtain ⟨b, HB⟩ : ∃ b, Hid (l[i]? = some b) := ⟨_, List.getElem?_eq_getElem hlt⟩
      have hbo : Bm.Ok b := HL.out b (List.mem_of_getElem? HB.out)
      have hdi : decide ((i : Int) < (l.length : Int)) = true := by rw [decide_eq_true_eq]; omega
      have hii : (i : Int) < (l.length : Int) := by omega
      have HN := Bm.joins_next l i b HB.out
      have hco : Bm.Ok (Bm.joins (l.take i)) := HA.out.b1.ok
      rw [← Bm.jw_all hbo hco] at HN
      generalize Bm.joins (l.take i) = d at *
      replace HN : Hid (Bm.joins (l.take (i + 1)) = Bm.jw b 16 d) := HN
      have Hbo : Hid (Bm.Ok b) := hbo
      obtain ⟨bk, o, rfl, hbk, hcell⟩ := HR.out.get i b HB.out
      have hrng : wr.rangeAt bk (o + i * 16) (blmC b) := fun r u hu => (HA.out.bel.cell (p := ⟨bk, o + i * 16 + r, none⟩) hbk).trans (hcell r u hu)
      clear hcell hbo hco
      go_upto_region 4 with fail
      refine wp_region_lit ?_
      refine wpList_plain rfl fun K hK => ?_
      go_simp
      refine hK _ _ ?_
      clear hK K
      refine wpList_load_mid rfl 24 (.tmp 12) rfl bk (o + i * 16) rfl (blmC b) _ hrng Try.underlying24 rfl (info_blmC Hbo.out) ?_
      refine wpList_plain rfl fun K hK => ?_
      go_simp
      refine hK _ _ ?_
      clear hK K hrng
      obtain ⟨W3, hW3, hB3, hb3⟩ := laid_blm Hbo.out wr 24
      have hth := (Bb.zero wr 24).thereA Hbo.out
      dsimp only [Z16] at hW3 hth
      refine wpList_store_mid rfl 24 (.tmp 5) (.tmp 13) rfl wr.heap.size 0 (blmC b).toArray rfl rfl hth (info_blmA Hbo.out) (blmC_all _) ?_
      rw [show (blmC b).toArray.toList = blmC b from rfl, hW3]
      have HA3 : Hid (JS w W3 (Bm.jw b 0 d)) := HA.out.past hb3
      clear hW3 hth hb3
      go_upto_region 5 with fail
      refine wp_region_lit ?_
      refine wpList_load_mid rfl 24 (.tmp 5) rfl wr.heap.size 0 rfl (blmC b) _ hB3.rng Try.underlying24 rfl (info_blmC Hbo.out) ?_
      clear hB3
      go_wp2_with fail
      go_loopw [15] (fun i wr => ∃ j : Nat, j ≤ 16 ∧ i = .int .i64 j ∧ Hid (JS w wr (Bm.jw b j d))) (fun i _ => 16 - (intOf i).toNat)
      case atStart => exact ⟨0, by omega, rfl, HA3⟩
      case round =>
        obtain ⟨r, hr, rfl, HD⟩ := hrel
        by_cases hlt2 : r < 16
        · have hri : (r : Int) < 16 := by omega
          have hix := fun W => run_ix16 b r W Hbo.out hlt2
          have c0 := HD.out.b1.at_ r hlt2
          have f0 := HD.out.b1.fz r hlt2
          have v1 := HD.out.b1.ok.get r
          have v2 := Hbo.out.get r
          have hor := u64_or_nat _ _ v1 v2
          have HO : Hid ((Bm.jw b r d).getD r 0 ||| b.getD r 0 < 18446744073709551616) := Nat.or_lt_two_pow (n := 64) v1 v2
          have HS : Hid (Bm.jw b (r + 1) d = (Bm.jw b r d).set r ((Bm.jw b r d).getD r 0 ||| b.getD r 0)) := rfl
          generalize (Bm.jw b r d).getD r 0 ||| b.getD r 0 = n at *
          generalize (Bm.jw b r d).getD r 0 = p at *
          generalize b.getD r 0 = q at *
          go_wp2_with fail
          go_roundw
          case rel => exact ⟨r + 1, by omega, by go_num, by rw [HS.out]; exact HD.out.set hlt2 HO.out⟩
          case measure => simp only [intOf]; omega
        · obtain rfl : r = 16 := by omega
          go_wp2_with fail
          go_roundw
          case rel => exact ⟨i + 1, by omega, by go_num, by rw [HN.out]; exact HD⟩
          case measure => simp only [intOf]; omega
    · obtain rfl : i = l.length := by omega
      rw [List.take_length] at HA
      go_upto_region 11 with fail
      refine wp_region_lit ?_
      refine wpList_load_mid rfl 24 (.tmp 3) rfl (w.heap.size + 1) 0 rfl (blmC (Bm.joins l)) _ HA.out.b1.rng Try.underlying24 rfl (info_blmC HA.out.b1.ok) ?_
      refine wpList_store_mid rfl 24 (.tmp 2) (.tmp 27) rfl w.heap.size 0 (blmC (Bm.joins l)).toArray rfl rfl (HA.out.res.thereA HA.out.b1.ok) (info_blmA HA.out.b1.ok) (blmC_all _) ?_
      have HR2 := HA.out.res.store HA.out.b1.ok
      have HB := below_setCells' w.heap.size (Nat.le_refl _) (blmC (Bm.joins l)) 0 _ HA.out.bel
      have hlv := run_loadVar_mid (P := Try.prog) _ _ _ 24 (blmC (Bm.joins l)) _ HR2.rng Try.underlying24 rfl (info_blmC HA.out.b1.ok)
      rw [show (blmC (Bm.joins l)).toArray.toList = blmC (Bm.joins l) from rfl]
      generalize wr.setCells w.heap.size 0 (blmC (Bm.joins l)) = w9 at *
      clear HA
      go_wp2_with fail
      refine bodyPost_ret (v := .agg (blmC (Bm.joins l)).toArray) ?_ rfl ⟨rfl, HB⟩
      simp [results, asAddr, Act.put, hlv]
end Go.Proofs.Ytpagbihebahnnaa
