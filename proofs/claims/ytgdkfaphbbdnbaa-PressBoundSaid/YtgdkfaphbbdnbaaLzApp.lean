/-
  What appendBytes of package lz answers: the bytes made so far, and this token's.
-/
import Derived.Test.YtgdkfaphbbdnbaaLzEq
namespace Go.Proofs.Ytgdkfaphbbdnbaa
open Go.RowKit
set_option maxRecDepth 4000

theorem letter_good {t : Lz.Tk} (h : Lz.Good t) : t.raw.isL = decide (t.len = 0) := by
  unfold Lz.Tr.isL Lz.Tk.raw
  refine decide_eq_decide.2 ?_
  dsimp only
  rcases h with ⟨h1, h2⟩ | ⟨_, h1, _, h2, _⟩ <;> omega
/-- a row of bytes is no token -/
theorem own_not_tok {base : Nat} {w : World} {v : Value} {n : Nat} {xs : List Value} {G : Nat} {cs : Array Value} (h : w.ownsRow base 5 1 v n xs) (hx : w.heap[G]? = some (.cells cs 79)) : some G ≠ v.ownBlock := by
  intro e
  rcases h.2 with ⟨rfl, _⟩ | ⟨g, cap, cur, rfl, _, hg, _⟩
  · simp [Value.ownBlock] at e
  · simp [Value.ownBlock] at e
    subst e
    rw [hx] at hg
    simp at hg
theorem own_byte {base : Nat} {w1 : World} {v1 : Value} {l : List UInt8} {b : UInt8} (h : w1.ownsRow base 5 1 v1 (l.length + 1) (l.map B ++ [.int .u8 b.toNat])) : w1.ownsRow base 5 1 v1 (l ++ [b]).length ((l ++ [b]).map B) := by
  simpa [B] using h

set_option maxHeartbeats 1000000 in
theorem append_letter (b : UInt8) (out : List UInt8) (v : Value) (base : Nat) (w : World) (hb : base ≤ w.heap.size) (ho : out.length ≤ 4096) (hown : w.ownsRow base 5 1 v out.length (out.map B)) :
    Calls Try.prog 74 #[v, tokV ⟨b, 0, 0⟩] w fun e w' => ∃ v', e = .returned v' ∧ w'.ownsRow base 5 1 v' (out ++ [b]).length ((out ++ [b]).map B) ∧ Below base w w' := by
  obtain ⟨i0, hi, hz0, hz1, hz2⟩ := info_parts info_u8
  have hl := letter_any ⟨b, 0, 0⟩
  rw [show Lz.Tr.isL ⟨b, 0, 0⟩ = true from rfl] at hl
  unfold tokV at hl ⊢
  go_enter Try.func74, Try.ntmps74
  go_wp2_with fail
  refine (hl _).mono ?_
  rintro e w2 ⟨rfl, hb2⟩
  have hc0 := (hb2.cell (p := ⟨w.heap.size, 0, none⟩) (by simp)).trans (show _ = some (.int .u8 (b.toNat : Int)) from by simp)
  have hB2 : Below w.heap.size w w2 := below_past hb2
  have hs2 := hB2.size
  have hown2 := own_below hown hB2
  clear hl hb2 hown
  go_wp2_with (at_builtin; refine wpList_append_own _ rfl (.tmp 7) (.tmp 10) 26 rfl base 5 i0 (.int .u8 0) 1 1 Try.underlying26 hi hz0 hz1 hz2 rfl (by decide) _ _ _ rfl (hown2.alloc _) ⟨w2.heap.size, 0, none⟩ 1 1 [.int .u8 (b.toNat : Int)] rfl rfl ?c1 ?c2 ?c3 ?c4 ?c5 ?_)
  case c1 =>
    intro j u hj
    match j, hj with
    | 0, hj => simp at hj; subst hj; simp [Addr.add]
  case c2 => intro u hu; simp at hu; subst hu; rfl
  case c3 => unfold maxLen; omega
  case c4 => omega
  case c5 => simp; omega
  intro v1 w3 hown3 hgrow _
  have HO : Hid (w3.ownsRow base 5 1 v1 (out ++ [b]).length ((out ++ [b]).map B)) := own_byte hown3
  have HB : Hid (Below base w w3) := (((hB2.mono hb)).alloc (by omega) _).grown hgrow (by simp; omega) fun k hk => (hown2.lt k hk).1
  clear hown3 hgrow hown2 hB2
  go_wp2_with fail
  go_ret
  exact ⟨_, rfl, HO.out, HB.out⟩

set_option maxHeartbeats 1000000 in
theorem append_copy (n d : Nat) (out : List UInt8) (v : Value) (base : Nat) (w : World) (hb : base ≤ w.heap.size) (hn : 1 ≤ n) (hn2 : n ≤ 255) (hd : 1 ≤ d) (hd2 : d ≤ out.length) (ho : out.length ≤ 4096) (hown : w.ownsRow base 5 1 v out.length (out.map B)) :
    Calls Try.prog 74 #[v, tokV ⟨0, n, d⟩] w fun e w' => ∃ v', e = .returned v' ∧ w'.ownsRow base 5 1 v' (Lz.cpy out d n).length ((Lz.cpy out d n).map B) ∧ Below base w w' := by
  obtain ⟨i0, hi, hz0, hz1, hz2⟩ := info_parts info_u8
  have hl := letter_any ⟨0, n, d⟩
  rw [show Lz.Tr.isL ⟨0, n, d⟩ = false from decide_eq_false (by dsimp only; omega)] at hl
  unfold tokV at hl ⊢
  have HX0 : Hid ((w.alloc (.cells #[.int .u8 0, .int .i64 n, .int .i64 d] 79)).heap[w.heap.size]? = some (.cells #[.int .u8 0, .int .i64 n, .int .i64 d] 79)) := heap_alloc_new w _
  go_enter Try.func74, Try.ntmps74
  go_wp2_with fail
  refine (hl _).mono ?_
  rintro e w2 ⟨rfl, hb2⟩
  have hc1 := (hb2.cell (p := ⟨w.heap.size, 1, none⟩) (by simp)).trans (show _ = some (.int .i64 (n : Int)) from by simp)
  have HX2 : Hid (w2.heap[w.heap.size]? = some (.cells #[.int .u8 0, .int .i64 n, .int .i64 d] 79)) := (hb2.block _ (by simp)).trans HX0.out
  have hB2 : Below w.heap.size w w2 := below_past hb2
  have hs2 := hB2.size
  have hown2 := own_below hown hB2
  have HB2 : Hid (Below base w w2) := hB2.mono hb
  clear hl hb2 hown hB2 HX0
  go_wp2_with fail
  clear hc1
  go_loopw [0, 14] (fun v i wr => ∃ k : Nat, k ≤ n ∧ i = .int .i64 k ∧ wr.ownsRow base 5 1 v (Lz.cpy out d k).length ((Lz.cpy out d k).map B) ∧ Hid (wr.heap[w.heap.size]? = some (.cells #[.int .u8 0, .int .i64 n, .int .i64 d] 79)) ∧ Hid (Below base w wr)) (fun _ i _ => n - (intOf i).toNat)
  case atStart => exact ⟨0, by omega, rfl, hown2, HX2, HB2⟩
  case round =>
    obtain ⟨k, hk, rfl, hown, hx, hB⟩ := hrel
    by_cases hlt : k < n
    · have hlen := Lz.cpy_length out d k
      have HC : Hid (Lz.cpy out d (k + 1) = Lz.cpy out d k ++ [(Lz.cpy out d k).getD ((Lz.cpy out d k).length - d) 0]) := rfl
      generalize Lz.cpy out d k = L at *
      obtain ⟨m, hm⟩ : ∃ m, m = L.length - d := ⟨_, rfl⟩
      rw [← hm] at HC
      have hmL : m < L.length := by omega
      have i3 : (L.length : Int) - (d : Int) = (m : Int) := by omega
      obtain ⟨g, cap, hv⟩ : ∃ g cap, u0 = .slice (some ⟨g, 0, none⟩) L.length cap := by
        rcases hown.2 with ⟨_, h0⟩ | ⟨g, cap, _, hv, _⟩
        · omega
        · exact ⟨g, cap, hv⟩
      subst hv
      have hcell : wr.cell? ⟨g, m, none⟩ = some (.int .u8 (L.getD m 0).toNat) := by
        have := hown.cellAt m (by omega)
        rw [this, List.getElem?_map, List.getElem?_eq_getElem hmL, List.getD_eq_getElem?_getD, List.getElem?_eq_getElem hmL]
        rfl
      generalize L.getD m 0 = b at *
      have hd2' : wr.cell? ⟨w.heap.size, 2, none⟩ = some (.int .i64 (d : Int)) := by
        rw [cell_of_row _ w.heap.size 2 _ _ _ hx.out]; rfl
      have hsw := hB.out.size
      have hnt := own_not_tok hown hx.out
      have hlb : L.length ≤ 4351 := by omega
      clear hm hlen
      go_wp2_with (at_builtin; refine wpList_append_own _ rfl (.tmp 16) (.tmp 25) 26 rfl base 5 i0 (.int .u8 0) 1 1 Try.underlying26 hi hz0 hz1 hz2 rfl (by decide) _ _ _ rfl (hown.alloc _) ⟨wr.heap.size, 0, none⟩ 1 1 [.int .u8 (b.toNat : Int)] rfl rfl ?c1 ?c2 ?c3 ?c4 ?c5 ?_)
      case c1 =>
        intro j u hj
        match j, hj with
        | 0, hj => simp at hj; subst hj; simp [Addr.add]
      case c2 => intro u hu; simp at hu; subst hu; rfl
      case c3 => unfold maxLen; omega
      case c4 => omega
      case c5 => simp; omega
      intro v1 w3 hown3 hgrow _
      have HO : Hid (w3.ownsRow base 5 1 v1 (Lz.cpy out d (k + 1)).length ((Lz.cpy out d (k + 1)).map B)) := by rw [HC.out]; exact own_byte hown3
      have HB3 : Hid (Below base w w3) := (hB.out.alloc (by omega) _).grown hgrow (by simp; omega) fun j hj => (hown.lt j hj).1
      have hlx : w.heap.size < wr.heap.size := (Array.getElem?_eq_some_iff.1 hx.out).1
      have HX3 : Hid (w3.heap[w.heap.size]? = some (.cells #[.int .u8 0, .int .i64 n, .int .i64 d] 79)) :=
        (hgrow.block _ (by simp; omega) hnt).trans ((Below.heap_alloc _ _ _ hlx).trans hx.out)
      clear hown3 hgrow hown hB hx hcell hd2' hnt
      go_wp2_with fail
      go_roundw
      case rel => exact ⟨k + 1, by omega, by go_num, HO.out, HX3, HB3⟩
      case measure => simp only [intOf]; omega
    · obtain rfl : k = n := by omega
      go_wp2_with fail
      go_ret
      exact ⟨_, rfl, hown, hB.out⟩
theorem append_any (t : Lz.Tk) (out : List UInt8) (v : Value) (base : Nat) (w : World) (hg : Lz.Good t) (hd : t.dist ≤ out.length) (hb : base ≤ w.heap.size) (ho : out.length ≤ 4096) (hown : w.ownsRow base 5 1 v out.length (out.map B)) :
    Calls Try.prog 74 #[v, tokV t.raw] w fun e w' => ∃ v', e = .returned v' ∧ w'.ownsRow base 5 1 v' (t.make out).length ((t.make out).map B) ∧ Below base w w' := by
  obtain ⟨b, n, d⟩ := t
  rcases hg with ⟨h1, h2⟩ | ⟨h0, h1, h2, h3, h4⟩
  · have h1 : n = 0 := h1
    have h2 : d = 0 := h2
    subst h1 h2
    exact append_letter b out v base w hb ho hown
  · have h0 : b = 0 := h0
    subst h0
    have h1 : 1 ≤ n := h1
    rw [show (Lz.Tk.mk 0 n d).make out = Lz.cpy out d n from if_neg (by show ¬ n = 0; omega)]
    exact append_copy n d out v base w hb h1 h2 h3 hd ho hown
end Go.Proofs.Ytgdkfaphbbdnbaa
