/-
  What shards of package lumkeep answers.
-/
import Derived.Test.YtoeohnknpbdgdaaDoorShKeep
import Derived.Test.YtoeohnknpbdgdaaDoorShTrue
namespace Go.Proofs.YtoeohnknpbdgdaaDoor
open Go.RowKit
set_option maxRecDepth 4000

/-- bit k -/
def bitF (b k : Nat) : Bool := decide (b / 2 ^ k % 2 = 1)
theorem bit_u64 (b k : Nat) (h : b < 18446744073709551616) : bits BinOp.and IntKind.u64 ((b : Int) / 2 ^ k) 1 = ((b / 2 ^ k % 2 : Nat) : Int) := by
  have hl := Nat.div_le_self b (2 ^ k)
  rw [show (b : Int) / 2 ^ k = ((b / 2 ^ k : Nat) : Int) from by simp, show (1 : Int) = ((1 : Nat) : Int) from rfl, u64_and_nat _ _ (by omega) (by omega), Nat.and_one_is_mod]
def qst : ByteArray := ⟨#[63]⟩
/-- the shards: those that bits name are there -/
def mk1 (P : List ByteArray) (b k : Nat) : Shd := if bitF b k then ⟨true, shd P k⟩ else ⟨false, qst⟩
def shs (P : List ByteArray) (b n : Nat) : List Shd := (List.range n).map (mk1 P b)
theorem shs_length (P : List ByteArray) (b n : Nat) : (shs P b n).length = n := by simp [shs]
theorem shs_get {P : List ByteArray} {b n k : Nat} (h : k < n) : (shs P b n).getD k Shd.none = mk1 P b k := by
  rw [List.getD_eq_getElem?_getD, List.getElem?_eq_getElem (by rw [shs_length]; exact h)]
  simp [shs]
theorem shs_more (P : List ByteArray) (b n : Nat) : shs P b (n + 1) = shs P b n ++ [mk1 P b n] := by
  simp [shs, List.range_succ]
def rowS (l : List Shd) : List Value := l.flatMap shdC
theorem rowS_length (l : List Shd) : (rowS l).length = l.length * 2 := by
  induction l with
  | nil => rfl
  | cons t l ih => show (shdC t ++ rowS l).length = _; rw [List.length_append, ih, List.length_cons]; simp [shdC]; omega
theorem rowS_more (l : List Shd) (t : Shd) : rowS (l ++ [t]) = rowS l ++ shdC t := by simp [rowS]
theorem rowS_get (l : List Shd) (i r : Nat) (hi : i < l.length) (hr : r < 2) : (rowS l)[i * 2 + r]? = (shdC (l.getD i Shd.none))[r]? := by
  induction l generalizing i with
  | nil => simp at hi
  | cons t l ih =>
    show (shdC t ++ rowS l)[i * 2 + r]? = _
    cases i with
    | zero => rw [List.getElem?_append_left (by simp [shdC]; omega)]; simp
    | succ i =>
      rw [List.getElem?_append_right (by simp [shdC]; omega), show (i + 1) * 2 + r - (shdC t).length = i * 2 + r from by simp [shdC]; omega, ih i (by simpa using hi), List.getD_cons_succ]
theorem Sx.of_own {base : Nat} {w : World} {v : Value} {l : List Shd} (h : w.ownsRow base 31 2 v l.length (rowS l)) : Sx w v l := by
  rcases h.2 with ⟨rfl, h0⟩ | ⟨g, cap, cur, rfl, hg, hh, h1, h2, _⟩
  · exact ⟨.inl ⟨⟨_, _, rfl⟩, List.length_eq_zero_iff.1 h0⟩, _, _, _, rfl, Nat.le_refl _, by omega⟩
  · refine ⟨.inr ⟨g, 0, cap, rfl, (Array.getElem?_eq_some_iff.1 hh).1, fun j hj => ?_⟩, _, _, _, rfl, h1, by unfold maxLen at h2; omega⟩
    have key : ∀ r, r < 2 → ∀ u, (shdC (l.getD j Shd.none))[r]? = some u → w.cell? ⟨g, 0 + (j * 2 + r), none⟩ = some u := fun r hr u hu => by
      have := World.ownsRow.cells h (g := g) rfl (j * 2 + r) u (by rw [rowS_get l j r hj hr]; exact hu)
      rwa [add_at] at this
    exact ⟨key 0 (by omega) _ rfl, key 1 (by omega) _ rfl⟩
theorem info_shd : (Tryd.prog.info? 31).map (fun i => (i.zero, i.size, i.bytes)) = some (some (.agg #[.bool false, .string ⟨#[]⟩]), 2, 24) := by kernel_rfl
theorem pair_shd {W : World} {B : Nat} {t : Shd} (h0 : W.cell? ⟨B, 0, none⟩ = some (.bool t.has)) (h1 : W.cell? ⟨B, 1, none⟩ = some (.string t.bytes)) : ∀ j u, (shdC t)[j]? = some u → W.cell? ((⟨B, 0, none⟩ : Addr).add j) = some u := by
  intro j u hj
  rw [add_at, Nat.zero_add]
  match j, hj with
  | 0, hj => rw [h0]; exact hj
  | 1, hj => rw [h1]; exact hj
theorem shdC_one (t : Shd) : ∀ u ∈ shdC t, u.oneCell' = true := by
  intro u hu
  simp [shdC] at hu
  rcases hu with rfl | rfl <;> rfl
/-- one shard more behind an owned row -/
theorem own_shd {base : Nat} {w wr w1 : World} {v v1 : Value} {l : List Shd} {t : Shd} {o : Obj} (hown : wr.ownsRow base 31 2 v l.length (rowS l))
    (hown1 : w1.ownsRow base 31 2 v1 (l.length + 1) (rowS l ++ shdC t)) (hg : (wr.alloc o).grownBy w1 v.ownBlock) (hbel : Below base w wr) (hbase : base ≤ w.heap.size) :
    w1.ownsRow base 31 2 v1 (l ++ [t]).length (rowS (l ++ [t])) ∧ Below base w w1 := by
  refine ⟨by rw [rowS_more, List.length_append, List.length_singleton]; exact hown1, ?_⟩
  have hs := hbel.size
  refine (hbel.alloc (by omega) o).grown hg (by simp; omega) ?_
  intro k hk
  exact (hown.lt k hk).1

set_option maxHeartbeats 1000000 in
theorem shards_bad (v : Value) (P : List ByteArray) (p b : Int) (w : World) (h : Tx w v P) (hl : P.length ≤ 140737488351232) (he : gErr P p ≠ 0) :
    Calls Tryd.prog 5 #[v, .int .i64 p, .int .u64 b] w fun e w' => e = .returned (.tuple #[.slice none 0 0, .bool false]) ∧ w' = w := by
  have h1 := guard_bad v P p w h hl he
  obtain ⟨a, c, rfl⟩ := h.slice
  generalize gErr P p = Z at *
  have hq : ((Z : Int) != 0) = true := by rw [bne_iff_ne]; omega
  clear h he
  go_enter Tryd.func5, Tryd.ntmps5
  go_wp2_with fail
  refine h1.mono ?_
  rintro e u ⟨rfl, hu⟩
  obtain rfl := hu.symm
  clear hu h1
  go_wp2_with fail
  go_ret2
  exact ⟨rfl, rfl⟩

set_option maxHeartbeats 4000000 in
theorem shards_ok (v : Value) (P : List ByteArray) (p b : Nat) (w : World) (h : Tx w v P) (he : gErr P p = 0) (hb64 : b < 18446744073709551616) :
    Calls Tryd.prog 5 #[v, .int .i64 p, .int .u64 b] w fun e w' => ∃ u, e = .returned (.tuple #[u, .bool true]) ∧ w'.ownsRow w.heap.size 31 2 u (P.length + p) (rowS (shs P b (P.length + p))) ∧ Below w.heap.size w w' := by
  obtain ⟨hP, hP2, hp, hp2, hs⟩ := gErr_zero he
  obtain ⟨i0, hi, hz0, hz1, hz2⟩ := info_parts info_str
  obtain ⟨i1, ki, kz0, kz1, kz2⟩ := info_parts info_shd
  have h1 := guard_ok v P p w h he
  have h2 : ∀ W, Below w.heap.size w W → _ := fun W hW => clone_txs v P W (h.below hW) hP (by omega)
  have HG : Hid ((gds P p).length = p ∧ ∀ k, k < P.length + p → (P ++ gds P p).getD k ByteArray.empty = shd P k) := by
    refine ⟨by simp [gds], fun k hk => ?_⟩
    unfold shd
    by_cases h : k < P.length
    · rw [if_pos h, List.getD_eq_getElem?_getD, List.getElem?_append_left h, ← List.getD_eq_getElem?_getD]
    · rw [if_neg h, List.getD_eq_getElem?_getD, List.getElem?_append_right (by omega), List.getElem?_eq_getElem (by simp [gds]; omega)]
      simp [gds]
  obtain ⟨a, c, rfl⟩ := h.slice
  clear h he hs
  generalize hGd : gds P p = G at *
  clear hGd
  obtain ⟨n, hn⟩ : ∃ n, n = P.length := ⟨_, rfl⟩
  rw [← hn] at h1 h2 HG hP hP2 ⊢
  have HPl : Hid (n = P.length) := hn
  clear hn
  go_enter Tryd.func5, Tryd.ntmps5
  go_wp2_with fail
  refine h1.mono ?_
  rintro e w1 ⟨u, rfl, hown, hb⟩
  rw [HG.out.1] at hown
  have h2' := h2 w1 hb
  obtain ⟨g, gc, rfl, hg1, hg2⟩ := own_some hown (by omega)
  have HB1 : Hid (Below w.heap.size w w1) := hb
  have HO1 : Hid (w1.ownsRow w.heap.size 9 1 (.slice (some ⟨g, 0, none⟩) p gc) p (G.map Tv)) := hown
  clear hown hb h1 h2
  go_wp2_with fail
  refine h2'.mono ?_
  rintro e w2 ⟨u, rfl, hown, hb⟩
  have hO2 := own_below HO1.out hb
  have hcell : ∀ j u, (G.map Tv)[j]? = some u → w2.cell? ((⟨g, 0, none⟩ : Addr).add j) = some u := fun j u hj => World.ownsRow.cells hO2 (g := g) rfl j u hj
  have hb2 : Below w.heap.size w w2 := HB1.out.trans (hb.mono HB1.out.size)
  have HB2 : Hid (Below w.heap.size w w2) := hb2
  have hsz2 : w1.heap.size ≤ w2.heap.size := hb.size
  obtain ⟨ua, uc, rfl⟩ := own_len hown
  have hGl := HG.out.1
  have hws : w.heap.size ≤ w1.heap.size := HB1.out.size
  clear hb h2' hO2 HO1
  go_wp2_with (at_builtin; refine wpList_append_own _ rfl (.tmp 22) (.tmp 23) 22 rfl w1.heap.size 9 i0 (.string ⟨#[]⟩) 1 16 Tryd.underlying22 hi hz0 hz1 hz2 rfl (by decide) _ _ _ rfl hown ⟨g, 0, none⟩ p gc (G.map Tv) rfl (by rw [List.length_map, hGl]; omega) hcell (tv_one G) (by unfold maxLen; omega) (by omega) hsz2 ?_; intro v1 w3 o3 g3 hiff; clear hiff; obtain ⟨va, vc, rfl⟩ := own_len o3)
  have HX3 : Hid (w3.ownsRow w1.heap.size 9 1 (.slice va (n + p) vc) (n + p) ((P ++ G).map Tv)) := by rw [List.map_append]; exact o3
  have HB3 : Hid (Below w.heap.size w w3) := hb2.grown g3 hb2.size (fun k hk => Nat.le_trans hws (hown.lt k hk).1)
  clear o3 g3 hcell hown hb2 hi hz0 hz1 hz2 HB2
  go_loopw [10, 26] (fun u i wr => ∃ k : Nat, k ≤ n + p ∧ i = .int .i64 k ∧ Hid (wr.ownsRow w.heap.size 31 2 u (shs P b k).length (rowS (shs P b k))) ∧ Hid (wr.ownsRow w1.heap.size 9 1 (.slice va (n + p) vc) (n + p) ((P ++ G).map Tv)) ∧ Hid (Below w.heap.size w wr)) (fun _ i _ => n + p - (intOf i).toNat)
  case atStart => exact ⟨0, by omega, rfl, World.ownsRow_nil _ _ _ _, HX3, HB3⟩
  case round =>
    clear HX3 HB3
    obtain ⟨k, hk, rfl, HO, HX, HB⟩ := hrel
    by_cases hlt : k < n + p
    · have hTx : Tx wr (.slice va (n + p) vc) (P ++ G) := Tx.of_own (base := w1.heap.size) (by rw [List.length_append, ← HPl.out, hGl]; exact HX.out)
      obtain ⟨bk, o, rfl, hbk, c0⟩ := hTx.get k (by rw [List.length_append, ← HPl.out, hGl]; exact hlt)
      clear hTx
      rw [HG.out.2 k hlt] at c0
      have hbit := bit_u64 b k hb64
      have hsl := shs_length P b k
      have HM : Hid (shs P b (k + 1) = shs P b k ++ [mk1 P b k]) := shs_more P b k
      have HMk : Hid (mk1 P b k = if bitF b k then ⟨true, shd P k⟩ else ⟨false, qst⟩) := rfl
      generalize shs P b k = L at *
      rw [hsl] at HO
      have hksh : (k : Int) < 64 := by omega
      obtain ⟨L1, hL1⟩ : ∃ L1, shs P b (k + 1) = L1 := ⟨_, rfl⟩
      rw [hL1] at HM
      have HL1 : Hid (shs P b (k + 1) = L1) := hL1
      clear hL1
      have HSL : Hid (L.length = k) := hsl
      clear hsl
      generalize shd P k = sk at *
      by_cases hbt : b / 2 ^ k % 2 = 1
      · have hq : (bits BinOp.and IntKind.u64 ((b : Int) / 2 ^ k) 1 == 1) = true := by rw [hbit, hbt]; rfl
        have HMt : Hid (L1 = L ++ [⟨true, sk⟩]) := by
          have := HMk.out
          rw [bitF, decide_eq_true hbt, if_pos rfl] at this
          show L1 = _
          rw [HM.out, this]
        clear hbit hbt HM HMk
        go_wp2_with (at_builtin; refine wpList_append_own _ rfl (.tmp 36) (.tmp 39) 23 rfl w.heap.size 31 i1 (.agg #[.bool false, .string ⟨#[]⟩]) 2 24 Tryd.underlying23 ki kz0 kz1 kz2 rfl (by decide) _ _ _ rfl (HO.out.alloc _) ⟨wr.heap.size, 0, none⟩ 1 1 (shdC ⟨true, sk⟩) rfl rfl ?c1 ?c2 ?c3 ?c4 ?c5 ?_)
        case c1 => exact pair_shd (by simp) (by simp)
        case c2 => exact shdC_one _
        case c3 => unfold maxLen; omega
        case c4 => omega
        case c5 => have := HB.out.size; simp; omega
        intro v' w5 hown1 hgrow _
        have RR := own_shd (t := ⟨true, sk⟩) (by rw [HSL.out]; exact HO.out) (by rw [HSL.out]; exact hown1) hgrow HB.out (Nat.le_refl _)
        have HR1 : Hid (w5.ownsRow w.heap.size 31 2 v' L1.length (rowS L1)) := by rw [HMt.out]; exact RR.1
        have HR2 : Hid (Below w.heap.size w w5) := RR.2
        have HXn : Hid (w5.ownsRow w1.heap.size 9 1 (.slice (some ⟨bk, o, none⟩) (n + p) vc) (n + p) ((P ++ G).map Tv)) :=
          own_kept HX.out (((Kept.refl (fun q => u10.ownBlock ≠ some q) wr).alloc _).grown hgrow fun q hq hp => hp hq) (own_unlike HX.out HO.out (by decide))
        clear RR hown1 hgrow HO HB HX
        go_wp2_with fail
        go_roundw
        case rel => exact ⟨k + 1, by omega, by go_num, by rw [HL1.out]; exact HR1, HXn, HR2⟩
        case measure => simp only [intOf]; omega
      · have hq : (bits BinOp.and IntKind.u64 ((b : Int) / 2 ^ k) 1 == 1) = false := by rw [hbit, show b / 2 ^ k % 2 = 0 from by omega]; rfl
        have HMt : Hid (L1 = L ++ [⟨false, qst⟩]) := by
          have := HMk.out
          rw [bitF, decide_eq_false hbt, if_neg (by decide)] at this
          show L1 = _
          rw [HM.out, this]
        clear hbit hbt HM HMk
        go_wp2_with (at_builtin; refine wpList_append_own _ rfl (.tmp 41) (.tmp 43) 23 rfl w.heap.size 31 i1 (.agg #[.bool false, .string ⟨#[]⟩]) 2 24 Tryd.underlying23 ki kz0 kz1 kz2 rfl (by decide) _ _ _ rfl (HO.out.alloc _) ⟨wr.heap.size, 0, none⟩ 1 1 (shdC ⟨false, qst⟩) rfl rfl ?c1 ?c2 ?c3 ?c4 ?c5 ?_)
        case c1 => exact pair_shd (by simp) (by simp [qst])
        case c2 => exact shdC_one _
        case c3 => unfold maxLen; omega
        case c4 => omega
        case c5 => have := HB.out.size; simp; omega
        intro v' w5 hown1 hgrow _
        have RR := own_shd (t := ⟨false, qst⟩) (by rw [HSL.out]; exact HO.out) (by rw [HSL.out]; exact hown1) hgrow HB.out (Nat.le_refl _)
        have HR1 : Hid (w5.ownsRow w.heap.size 31 2 v' L1.length (rowS L1)) := by rw [HMt.out]; exact RR.1
        have HR2 : Hid (Below w.heap.size w w5) := RR.2
        have HXn : Hid (w5.ownsRow w1.heap.size 9 1 (.slice (some ⟨bk, o, none⟩) (n + p) vc) (n + p) ((P ++ G).map Tv)) :=
          own_kept HX.out (((Kept.refl (fun q => u10.ownBlock ≠ some q) wr).alloc _).grown hgrow fun q hq hp => hp hq) (own_unlike HX.out HO.out (by decide))
        clear RR hown1 hgrow HO HB HX
        go_wp2_with fail
        go_roundw
        case rel => exact ⟨k + 1, by omega, by go_num, by rw [HL1.out]; exact HR1, HXn, HR2⟩
        case measure => simp only [intOf]; omega
    · obtain rfl : k = n + p := by omega
      go_wp2_with fail
      go_ret2
      exact ⟨_, rfl, by rw [shs_length] at HO; exact HO.out, HB.out⟩
end Go.Proofs.YtoeohnknpbdgdaaDoor
