/-
  What Greedy of package lz answers.
  What appendBytes of package lz answers: the bytes made so far, and this token's.
  What Expand of package lz answers.
  What Read of package lz answers.
  What Pack of package lz answers.
  The walk of lumkeep.LzPacked: it returns true.
-/
import Derived.Test.YtgdkfaphbbdnbaaGLzA

namespace Go.Proofs.Ytgdkfaphbbdnbaa
open Go.RowKit
set_option maxRecDepth 4000

theorem own_tok {base : Nat} {w1 : World} {v1 : Value} {l : List Lz.Tr} {t : Lz.Tr} (h : w1.ownsRow base 79 3 v1 (l.length + 1) (rowC l ++ tokC t)) : w1.ownsRow base 79 3 v1 (l ++ [t]).length (rowC (l ++ [t])) := by
  rw [rowC_more, List.length_append, List.length_singleton]; exact h
theorem own_form {base : Nat} {e : TypeId} {k n : Nat} {w : World} {v : Value} {xs : List Value} (h : w.ownsRow base e k v n xs) : ∃ a c, v = .slice a n c := by
  rcases h.2 with ⟨rfl, h0⟩ | ⟨g, cap, cur, rfl, _⟩
  · exact ⟨_, _, by rw [h0]⟩
  · exact ⟨_, _, rfl⟩
namespace Lz
def greedyR (s : Bs) : List Tr := (greedy s).map Tk.raw
def restR (s : Bs) (p : Nat) : List Tr := (rest s p).map Tk.raw
theorem tok_found {s : Bs} {p : Nat} (h : found s p = true) : (tokAt s p).raw = best s p := by
  have h := of_decide_eq_true h
  unfold tokAt best Tk.raw
  rw [if_neg (by omega)]
theorem tok_none {s : Bs} {p : Nat} (h : found s p = false) : (tokAt s p).raw = ⟨s.getD p 0, 0, 0⟩ := by
  have h := of_decide_eq_false h
  unfold tokAt Tk.raw
  rw [if_pos (by omega)]
  rfl
theorem many_size (s : Bs) (p : Nat) (hp : p < s.length) : (tokAt s p).raw.many = ((tokAt s p).size : Nat) := by
  unfold Tr.many Tk.size Tk.raw
  rcases fits_tokAt hp with ⟨h1, h2, _⟩ | ⟨_, h1, h2, h3, h4, _⟩
  · dsimp only
    rw [if_pos ⟨by omega, by omega⟩, if_pos h1]; rfl
  · dsimp only
    rw [if_neg (by omega), if_neg (by omega)]
end Lz
theorem getD_byte (s : ByteArray) (k : Nat) (h : k < s.size) : s.data.toList.getD k 0 = s[k] := by
  rw [List.getD_eq_getElem?_getD, byte_get s k h]; rfl

set_option maxHeartbeats 400000 in
theorem greedy_large (s : ByteArray) (w : World) (hs : 4096 < s.size) (_h : s.size ≤ 140737488351232) :
    Calls Try.prog 24 #[.string s] w fun e w' => e = .returned (.tuple #[.slice none 0 0, .int .i64 2]) ∧ w' = w := by
  go_enter Try.func24, Try.ntmps24
  go_wp2_with fail
  go_ret2
  exact ⟨rfl, rfl⟩

set_option maxHeartbeats 1000000 in
theorem greedy_of (s : ByteArray) (w : World) (hs : s.size ≤ 4096) (T : Nat → Lz.Tr) (z : Nat → Nat) (F : Nat → Bool) (Bt : Nat → Lz.Tr) (R : Nat → List Lz.Tr)
    (hc : ∀ p V, p < s.size → Calls Try.prog 49 #[.string s, .int .i64 p] V fun e w' => e = .returned (.tuple #[tokV (Bt p), .bool (F p)]) ∧ Below V.heap.size V w')
    (hf : ∀ p, p < s.size → F p = true → T p = Bt p) (hn : ∀ p (h : p < s.size), F p = false → T p = ⟨s[p], 0, 0⟩)
    (hz : ∀ p, p < s.size → (T p).many = (z p : Nat) ∧ 1 ≤ z p ∧ p + z p ≤ s.size)
    (hR : ∀ p, p < s.size → R p = T p :: R (p + z p)) (hR0 : R s.size = []) :
    Calls Try.prog 24 #[.string s] w fun e w' => ∃ v, e = .returned (.tuple #[v, .int .i64 0]) ∧ w'.ownsRow w.heap.size 79 3 v (R 0).length (rowC (R 0)) ∧ Below w.heap.size w w' := by
  have HC : Hid (∀ p V, p < s.size → Calls Try.prog 49 #[.string s, .int .i64 p] V fun e w' => e = .returned (.tuple #[tokV (Bt p), .bool (F p)]) ∧ Below V.heap.size V w') := hc
  have HF : Hid (∀ p, p < s.size → F p = true → T p = Bt p) := hf
  have HN : Hid (∀ p (h : p < s.size), F p = false → T p = ⟨s[p], 0, 0⟩) := hn
  have HZ : Hid (∀ p, p < s.size → (T p).many = (z p : Nat) ∧ 1 ≤ z p ∧ p + z p ≤ s.size) := hz
  have HR : Hid (∀ p, p < s.size → R p = T p :: R (p + z p)) := hR
  have HR0 : Hid (R s.size = []) := hR0
  clear hc hf hn hz hR hR0
  obtain ⟨i0, hi, hz0, hz1, hz2⟩ := info_parts info_tok
  go_enter Try.func24, Try.ntmps24
  go_wp2_with fail
  go_loopw [4, 5] (fun v i wr => ∃ (p : Nat) (out : List Lz.Tr), p ≤ s.size ∧ out.length ≤ p ∧ i = .int .i64 p ∧ Hid (out ++ R p = R 0) ∧ wr.ownsRow w.heap.size 79 3 v out.length (rowC out) ∧ Below w.heap.size w wr) (fun _ i _ => s.size - (intOf i).toNat)
  case atStart => exact ⟨0, [], by omega, by simp, rfl, rfl, World.ownsRow_nil _ _ _ _, Below.refl _ _⟩
  case round =>
    obtain ⟨p, out, hp, ho, rfl, hout, hown, hbel⟩ := hrel
    by_cases hlt : p < s.size
    · have hcall := fun V => HC.out p V hlt
      have hzp := HZ.out p hlt
      have hby := fun V => bytes_any (T p) V
      rw [hzp.1] at hby
      have hk1 := hzp.2.1
      have hk2 := hzp.2.2
      have HRp : Hid (R p = T p :: R (p + z p)) := HR.out p hlt
      have hFp := HF.out p hlt
      have hNp := HN.out p hlt
      generalize hTp : T p = t at *
      generalize hBp : Bt p = bt at *
      generalize hfp : F p = f at *
      generalize hzp' : z p = k at *
      have HK : Hid (z p = k) := hzp'
      clear hzp hTp hBp hfp hzp'
      unfold tokV at hcall hby
      go_upto_region 6 with fail
      go_wp2_with fail
      refine (hcall _).mono ?_
      rintro e w2 ⟨rfl, hb2⟩
      have hown2 := own_below hown hb2
      have hB2 := hbel.trans (hb2.mono hbel.size)
      have hs2 := hB2.size
      clear hcall hb2 hown hbel
      have HF2 : Hid (f = true → t = bt) := hFp
      have HN2 : Hid (f = false → t = ⟨s[p], 0, 0⟩) := hNp
      clear hFp hNp
      go_upto_if 22 with fail
      go_cut [] from 11 to 34 (fun wx => wx = w2.alloc (.cells #[.int .u8 t.lit.toNat, .int .i64 t.len, .int .i64 t.dist] 79))
      case first =>
        cases f with
        | true =>
          go_wp2_with fail
          go_meet
          rw [HF2.out trivial]
        | false =>
          go_wp2_with fail
          go_meet
          rw [HN2.out trivial]
      case rest =>
      obtain rfl := hcut
      clear HF2 HN2
      go_wp2_with (at_builtin; refine wpList_append_own _ rfl (.tmp 27) (.tmp 29) 47 rfl w.heap.size 79 i0 (.agg #[.int .u8 0, .int .i64 0, .int .i64 0]) 3 24 Try.underlying47 hi hz0 hz1 hz2 rfl (by decide) _ _ _ rfl ((hown2.alloc _).alloc _) ⟨w2.heap.size + 1, 0, none⟩ 1 1 (tokC t) rfl rfl ?c1 ?c2 ?c3 ?c4 ?c5 ?_)
      case c1 =>
        intro j u hj
        match j, hj with
        | 0, hj => simp [tokC] at hj; subst hj; simp [Addr.add]
        | 1, hj => simp [tokC] at hj; subst hj; simp [Addr.add]
        | 2, hj => simp [tokC] at hj; subst hj; simp [Addr.add]
      case c2 => intro u hu; simp [tokC] at hu; rcases hu with rfl | rfl | rfl <;> rfl
      case c3 => unfold maxLen; omega
      case c4 => omega
      case c5 => simp; omega
      intro v' w4 hown4 hgrow _
      have hne : some w2.heap.size ≠ u4.ownBlock := fun e => by have := (hown2.lt _ e.symm).2; omega
      have x0 : w4.cell? ⟨w2.heap.size, 0, none⟩ = some (.int .u8 (t.lit.toNat : Int)) := hgrow.cell (by simp) hne
      have x1 : w4.cell? ⟨w2.heap.size, 1, none⟩ = some (.int .i64 t.len) := hgrow.cell (by simp) hne
      have x2 : w4.cell? ⟨w2.heap.size, 2, none⟩ = some (.int .i64 t.dist) := hgrow.cell (by simp) hne
      have hB4 : Below w.heap.size w w4 := ((hB2.alloc hs2 _).alloc (by simp; omega) _).grown hgrow (by simp; omega) fun k hk => (hown2.lt k hk).1
      have hown5 := own_tok hown4
      have hs4 := hB4.size
      clear hown4 hgrow hown2 hB2 hne
      go_wp2_with fail
      refine (hby _).mono ?_
      rintro e w6 ⟨rfl, hb6⟩
      have HO6 : Hid (w6.ownsRow w.heap.size 79 3 v' (out ++ [t]).length (rowC (out ++ [t]))) := own_below hown5 hb6
      have HB6 : Hid (Below w.heap.size w w6) := hB4.trans (hb6.mono hs4)
      have HOU : Hid ((out ++ [t]) ++ R (p + k) = R 0) := by
        show _ = _
        rw [← hout.out, HRp.out]
        simp
      clear hby hb6 hown5 hB4 x0 x1 x2
      go_wp2_with fail
      go_roundw
      case rel => exact ⟨p + k, out ++ [t], hk2, by simp; omega, by go_num, HOU, HO6.out, HB6.out⟩
      case measure => simp only [intOf]; omega
    · have HE : Hid (out = R 0) := by
        show _ = _
        rw [← hout.out, show p = s.size from by omega, HR0.out, List.append_nil]
      rw [HE.out] at hown
      clear HE hout
      go_wp2_with fail
      go_ret2
      exact ⟨_, rfl, hown, hbel⟩
theorem greedy_any (s : ByteArray) (w : World) (hs : s.size ≤ 4096) :
    Calls Try.prog 24 #[.string s] w fun e w' => ∃ v, e = .returned (.tuple #[v, .int .i64 0]) ∧ w'.ownsRow w.heap.size 79 3 v (Lz.greedyR s.data.toList).length (rowC (Lz.greedyR s.data.toList)) ∧ Below w.heap.size w w' := by
  have hl : s.data.toList.length = s.size := (Lib.size_eq s).symm
  refine greedy_of s w hs (fun p => (Lz.tokAt s.data.toList p).raw) (fun p => (Lz.tokAt s.data.toList p).size) (fun p => Lz.found s.data.toList p) (fun p => Lz.best s.data.toList p) (fun p => Lz.restR s.data.toList p)
    (fun p V hp => longest_any s p V hs (by omega)) (fun p _ hf => Lz.tok_found hf) (fun p hp hf => by rw [← getD_byte s p hp]; exact Lz.tok_none hf) (fun p hp => ?_) (fun p hp => ?_) ?_
  · exact ⟨Lz.many_size _ _ (by omega), Lz.Tk.size_pos _, by rw [← hl]; exact (Lz.fits_tokAt (by omega)).size⟩
  · show (Lz.rest _ _).map _ = _
    rw [Lz.rest_step _ _ (by omega)]
    rfl
  · show (Lz.rest _ _).map _ = _
    rw [Lz.rest_end _ _ (by omega)]
    rfl
end Go.Proofs.Ytgdkfaphbbdnbaa

namespace Go.Proofs.Ytgdkfaphbbdnbaa
open Go.RowKit
set_option maxRecDepth 4000

theorem letter_good {t : Lz.Tk} (h : Lz.Good t) : t.raw.isL = decide (t.len = 0) := by
  unfold Lz.Tr.isL Lz.Tk.raw
  refine decide_eq_decide.2 ?_
  dsimp only
  rcases h with ⟨h1, h2⟩ | ⟨_, h1, _, h2, _⟩ <;> omega
/-- a row of bytes is no token -/
theorem own_not_tok {base : Nat} {w : World} {v : Value} {n : Nat} {xs : List Value} {G : Nat} {cs : Array Value} (h : w.ownsRow base 5 1 v n xs) (hx : w.heap[G]? = some (.cells cs 79)) : some G ≠ v.ownBlock := by
  intro e
  rcases h.2 with ⟨rfl, _⟩ | ⟨g, cap, cur, rfl, _, hg, _⟩
  · simp [Value.ownBlock] at e
  · simp [Value.ownBlock] at e
    subst e
    rw [hx] at hg
    simp at hg
theorem own_byte {base : Nat} {w1 : World} {v1 : Value} {l : List UInt8} {b : UInt8} (h : w1.ownsRow base 5 1 v1 (l.length + 1) (l.map B ++ [.int .u8 b.toNat])) : w1.ownsRow base 5 1 v1 (l ++ [b]).length ((l ++ [b]).map B) := by
  simpa [B] using h

set_option maxHeartbeats 1000000 in
theorem append_letter (b : UInt8) (out : List UInt8) (v : Value) (base : Nat) (w : World) (hb : base ≤ w.heap.size) (ho : out.length ≤ 4096) (hown : w.ownsRow base 5 1 v out.length (out.map B)) :
    Calls Try.prog 74 #[v, tokV ⟨b, 0, 0⟩] w fun e w' => ∃ v', e = .returned v' ∧ w'.ownsRow base 5 1 v' (out ++ [b]).length ((out ++ [b]).map B) ∧ Below base w w' := by
  obtain ⟨i0, hi, hz0, hz1, hz2⟩ := info_parts info_u8
  have hl := letter_any ⟨b, 0, 0⟩
  rw [show Lz.Tr.isL ⟨b, 0, 0⟩ = true from rfl] at hl
  unfold tokV at hl ⊢
  go_enter Try.func74, Try.ntmps74
  go_wp2_with fail
  refine (hl _).mono ?_
  rintro e w2 ⟨rfl, hb2⟩
  have hc0 := (hb2.cell (p := ⟨w.heap.size, 0, none⟩) (by simp)).trans (show _ = some (.int .u8 (b.toNat : Int)) from by simp)
  have hB2 : Below w.heap.size w w2 := below_past hb2
  have hs2 := hB2.size
  have hown2 := own_below hown hB2
  clear hl hb2 hown
  go_wp2_with (at_builtin; refine wpList_append_own _ rfl (.tmp 7) (.tmp 10) 26 rfl base 5 i0 (.int .u8 0) 1 1 Try.underlying26 hi hz0 hz1 hz2 rfl (by decide) _ _ _ rfl (hown2.alloc _) ⟨w2.heap.size, 0, none⟩ 1 1 [.int .u8 (b.toNat : Int)] rfl rfl ?c1 ?c2 ?c3 ?c4 ?c5 ?_)
  case c1 =>
    intro j u hj
    match j, hj with
    | 0, hj => simp at hj; subst hj; simp [Addr.add]
  case c2 => intro u hu; simp at hu; subst hu; rfl
  case c3 => unfold maxLen; omega
  case c4 => omega
  case c5 => simp; omega
  intro v1 w3 hown3 hgrow _
  have HO : Hid (w3.ownsRow base 5 1 v1 (out ++ [b]).length ((out ++ [b]).map B)) := own_byte hown3
  have HB : Hid (Below base w w3) := (((hB2.mono hb)).alloc (by omega) _).grown hgrow (by simp; omega) fun k hk => (hown2.lt k hk).1
  clear hown3 hgrow hown2 hB2
  go_wp2_with fail
  go_ret
  exact ⟨_, rfl, HO.out, HB.out⟩

set_option maxHeartbeats 1000000 in
theorem append_copy (n d : Nat) (out : List UInt8) (v : Value) (base : Nat) (w : World) (hb : base ≤ w.heap.size) (hn : 1 ≤ n) (hn2 : n ≤ 255) (hd : 1 ≤ d) (hd2 : d ≤ out.length) (ho : out.length ≤ 4096) (hown : w.ownsRow base 5 1 v out.length (out.map B)) :
    Calls Try.prog 74 #[v, tokV ⟨0, n, d⟩] w fun e w' => ∃ v', e = .returned v' ∧ w'.ownsRow base 5 1 v' (Lz.cpy out d n).length ((Lz.cpy out d n).map B) ∧ Below base w w' := by
  obtain ⟨i0, hi, hz0, hz1, hz2⟩ := info_parts info_u8
  have hl := letter_any ⟨0, n, d⟩
  rw [show Lz.Tr.isL ⟨0, n, d⟩ = false from decide_eq_false (by dsimp only; omega)] at hl
  unfold tokV at hl ⊢
  have HX0 : Hid ((w.alloc (.cells #[.int .u8 0, .int .i64 n, .int .i64 d] 79)).heap[w.heap.size]? = some (.cells #[.int .u8 0, .int .i64 n, .int .i64 d] 79)) := heap_alloc_new w _
  go_enter Try.func74, Try.ntmps74
  go_wp2_with fail
  refine (hl _).mono ?_
  rintro e w2 ⟨rfl, hb2⟩
  have hc1 := (hb2.cell (p := ⟨w.heap.size, 1, none⟩) (by simp)).trans (show _ = some (.int .i64 (n : Int)) from by simp)
  have HX2 : Hid (w2.heap[w.heap.size]? = some (.cells #[.int .u8 0, .int .i64 n, .int .i64 d] 79)) := (hb2.block _ (by simp)).trans HX0.out
  have hB2 : Below w.heap.size w w2 := below_past hb2
  have hs2 := hB2.size
  have hown2 := own_below hown hB2
  have HB2 : Hid (Below base w w2) := hB2.mono hb
  clear hl hb2 hown hB2 HX0
  go_wp2_with fail
  clear hc1
  go_loopw [0, 14] (fun v i wr => ∃ k : Nat, k ≤ n ∧ i = .int .i64 k ∧ wr.ownsRow base 5 1 v (Lz.cpy out d k).length ((Lz.cpy out d k).map B) ∧ Hid (wr.heap[w.heap.size]? = some (.cells #[.int .u8 0, .int .i64 n, .int .i64 d] 79)) ∧ Hid (Below base w wr)) (fun _ i _ => n - (intOf i).toNat)
  case atStart => exact ⟨0, by omega, rfl, hown2, HX2, HB2⟩
  case round =>
    obtain ⟨k, hk, rfl, hown, hx, hB⟩ := hrel
    by_cases hlt : k < n
    · have hlen := Lz.cpy_length out d k
      have HC : Hid (Lz.cpy out d (k + 1) = Lz.cpy out d k ++ [(Lz.cpy out d k).getD ((Lz.cpy out d k).length - d) 0]) := rfl
      generalize Lz.cpy out d k = L at *
      obtain ⟨m, hm⟩ : ∃ m, m = L.length - d := ⟨_, rfl⟩
      rw [← hm] at HC
      have hmL : m < L.length := by omega
      have i3 : (L.length : Int) - (d : Int) = (m : Int) := by omega
      obtain ⟨g, cap, hv⟩ : ∃ g cap, u0 = .slice (some ⟨g, 0, none⟩) L.length cap := by
        rcases hown.2 with ⟨_, h0⟩ | ⟨g, cap, _, hv, _⟩
        · omega
        · exact ⟨g, cap, hv⟩
      subst hv
      have hcell : wr.cell? ⟨g, m, none⟩ = some (.int .u8 (L.getD m 0).toNat) := by
        have := hown.cellAt m (by omega)
        rw [this, List.getElem?_map, List.getElem?_eq_getElem hmL, List.getD_eq_getElem?_getD, List.getElem?_eq_getElem hmL]
        rfl
      generalize L.getD m 0 = b at *
      have hd2' : wr.cell? ⟨w.heap.size, 2, none⟩ = some (.int .i64 (d : Int)) := by
        rw [cell_of_row _ w.heap.size 2 _ _ _ hx.out]; rfl
      have hsw := hB.out.size
      have hnt := own_not_tok hown hx.out
      have hlb : L.length ≤ 4351 := by omega
      clear hm hlen
      go_wp2_with (at_builtin; refine wpList_append_own _ rfl (.tmp 16) (.tmp 25) 26 rfl base 5 i0 (.int .u8 0) 1 1 Try.underlying26 hi hz0 hz1 hz2 rfl (by decide) _ _ _ rfl (hown.alloc _) ⟨wr.heap.size, 0, none⟩ 1 1 [.int .u8 (b.toNat : Int)] rfl rfl ?c1 ?c2 ?c3 ?c4 ?c5 ?_)
      case c1 =>
        intro j u hj
        match j, hj with
        | 0, hj => simp at hj; subst hj; simp [Addr.add]
      case c2 => intro u hu; simp at hu; subst hu; rfl
      case c3 => unfold maxLen; omega
      case c4 => omega
      case c5 => simp; omega
      intro v1 w3 hown3 hgrow _
      have HO : Hid (w3.ownsRow base 5 1 v1 (Lz.cpy out d (k + 1)).length ((Lz.cpy out d (k + 1)).map B)) := by rw [HC.out]; exact own_byte hown3
      have HB3 : Hid (Below base w w3) := (hB.out.alloc (by omega) _).grown hgrow (by simp; omega) fun j hj => (hown.lt j hj).1
      have hlx : w.heap.size < wr.heap.size := (Array.getElem?_eq_some_iff.1 hx.out).1
      have HX3 : Hid (w3.heap[w.heap.size]? = some (.cells #[.int .u8 0, .int .i64 n, .int .i64 d] 79)) :=
        (hgrow.block _ (by simp; omega) hnt).trans ((Below.heap_alloc _ _ _ hlx).trans hx.out)
      clear hown3 hgrow hown hB hx hcell hd2' hnt
      go_wp2_with fail
      go_roundw
      case rel => exact ⟨k + 1, by omega, by go_num, HO.out, HX3, HB3⟩
      case measure => simp only [intOf]; omega
    · obtain rfl : k = n := by omega
      go_wp2_with fail
      go_ret
      exact ⟨_, rfl, hown, hB.out⟩
theorem append_any (t : Lz.Tk) (out : List UInt8) (v : Value) (base : Nat) (w : World) (hg : Lz.Good t) (hd : t.dist ≤ out.length) (hb : base ≤ w.heap.size) (ho : out.length ≤ 4096) (hown : w.ownsRow base 5 1 v out.length (out.map B)) :
    Calls Try.prog 74 #[v, tokV t.raw] w fun e w' => ∃ v', e = .returned v' ∧ w'.ownsRow base 5 1 v' (t.make out).length ((t.make out).map B) ∧ Below base w w' := by
  obtain ⟨b, n, d⟩ := t
  rcases hg with ⟨h1, h2⟩ | ⟨h0, h1, h2, h3, h4⟩
  · have h1 : n = 0 := h1
    have h2 : d = 0 := h2
    subst h1 h2
    exact append_letter b out v base w hb ho hown
  · have h0 : b = 0 := h0
    subst h0
    have h1 : 1 ≤ n := h1
    rw [show (Lz.Tk.mk 0 n d).make out = Lz.cpy out d n from if_neg (by show ¬ n = 0; omega)]
    exact append_copy n d out v base w hb h1 h2 h3 hd ho hown
end Go.Proofs.Ytgdkfaphbbdnbaa

namespace Go.Proofs.Ytgdkfaphbbdnbaa
open Go.RowKit
set_option maxRecDepth 4000

namespace Lz
def Tr.tok (t : Tr) : Tk := ⟨t.lit, t.len.toNat, t.dist.toNat⟩
theorem Tr.tok_raw {t : Tr} (h : t.form) : t.tok.raw = t ∧ Good t.tok := by
  obtain ⟨b, n, d⟩ := t
  unfold Tr.tok Tk.raw
  rcases h with ⟨h1, h2⟩ | ⟨h0, h1, h2, h3, h4⟩ <;> dsimp only at *
  · exact ⟨by congr <;> omega, .inl ⟨by dsimp only; omega, by dsimp only; omega⟩⟩
  · exact ⟨by congr <;> omega, .inr ⟨h0, by dsimp only; omega, by dsimp only; omega, by dsimp only; omega, by dsimp only; omega⟩⟩
theorem raw_tok (t : Tk) : t.raw.tok = t := by
  obtain ⟨b, n, d⟩ := t
  rfl
/-- P16's Expand -/
def expd (l : List Tr) (most : Int) : Bs × Nat := if most < 0 ∨ 4096 < most then ([], 1) else if chk l = 0 then ex most.toNat [] (l.map Tr.tok) else ([], chk l)
theorem chk_zero {l : List Tr} (h : chk l = 0) : l.length ≤ 4096 ∧ ∀ t ∈ l, t.form := by
  unfold chk at h
  split at h
  · omega
  · split at h
    · exact ⟨by omega, by assumption⟩
    · omega
theorem many_raw {t : Tk} (h : Good t) : t.raw.many = (t.size : Nat) := by
  unfold Tr.many Tk.size Tk.raw
  rcases h with ⟨h1, h2⟩ | ⟨_, h1, h2, h3, h4⟩
  · dsimp only
    rw [if_pos ⟨by omega, by omega⟩, if_pos h1]; rfl
  · dsimp only
    rw [if_neg (by omega), if_neg (by omega)]
theorem ex_len {most : Nat} {out : Bs} {l : List Tk} (ho : out.length ≤ most) : (ex most out l).1.length ≤ most := by
  induction l generalizing out with
  | nil => exact ho
  | cons t l ih =>
    rw [ex]
    split
    · exact Nat.zero_le _
    · split
      · exact Nat.zero_le _
      · exact ih (by rw [make_length]; omega)
end Lz

set_option maxHeartbeats 400000 in
theorem expand_arg (v : Value) (most : Int) (w : World) (h : most < 0 ∨ 4096 < most) :
    Calls Try.prog 42 #[v, .int .i64 most] w fun e w' => e = .returned (.tuple #[.string ⟨#[]⟩, .int .i64 1]) ∧ w' = w := by
  rcases h with h | h
  · go_enter Try.func42, Try.ntmps42
    go_wp2_with fail
    go_ret2
    exact ⟨rfl, rfl⟩
  · have h0 : decide (most < 0) = false := decide_eq_false (by omega)
    have h1 : decide (4096 < most) = true := decide_eq_true h
    go_enter Try.func42, Try.ntmps42
    go_wp2_with fail
    go_ret2
    exact ⟨rfl, rfl⟩

set_option maxHeartbeats 400000 in
theorem expand_chk (v : Value) (l : List Lz.Tr) (M : Nat) (w : World) (h : Toks w v l) (hl : l.length ≤ 140737488351232) (hM : M ≤ 4096) (hc : Lz.chk l ≠ 0) :
    Calls Try.prog 42 #[v, .int .i64 M] w fun e w' => e = .returned (.tuple #[.string ⟨#[]⟩, .int .i64 (Lz.chk l)]) ∧ Below w.heap.size w w' := by
  have hk := check_any v l w h hl
  generalize Lz.chk l = c at *
  have hq : ((c : Int) != 0) = true := by rw [bne_iff_ne]; omega
  have h0 : decide ((M : Int) < 0) = false := decide_eq_false (by omega)
  have h1 : decide (4096 < (M : Int)) = false := decide_eq_false (by omega)
  go_enter Try.func42, Try.ntmps42
  go_wp2_with fail
  refine hk.mono ?_
  rintro e w1 ⟨rfl, hb1⟩
  go_wp2_with fail
  go_ret2
  exact ⟨rfl, hb1⟩

set_option maxHeartbeats 2000000 in
theorem expand_in (v : Value) (l : List Lz.Tr) (M : Nat) (R : Lz.Bs × Nat) (w : World) (h : Toks w v l) (hM : M ≤ 4096) (hc : Lz.chk l = 0) (hR : Lz.ex M [] (l.map Lz.Tr.tok) = R) :
    Calls Try.prog 42 #[v, .int .i64 M] w fun e w' => e = .returned (.tuple #[.string ⟨R.1.toArray⟩, .int .i64 R.2]) ∧ Below w.heap.size w w' := by
  obtain ⟨hl, hf⟩ := Lz.chk_zero hc
  have hk := check_any v l w h (by omega)
  rw [hc] at hk
  have HF : Hid (∀ t ∈ l, t.form) := hf
  have HR : Hid (Lz.ex M [] (l.map Lz.Tr.tok) = R) := hR
  have HT : Hid (Toks w v l) := h
  obtain ⟨a, c, rfl⟩ := h.slice
  have h0 : decide ((M : Int) < 0) = false := decide_eq_false (by omega)
  have h1 : decide (4096 < (M : Int)) = false := decide_eq_false (by omega)
  clear hf hR hc h
  go_enter Try.func42, Try.ntmps42
  go_wp2_with fail
  refine hk.mono ?_
  rintro e w1 ⟨rfl, hb1⟩
  clear hk
  go_wp2_with fail
  go_loopw [7, 23] (fun v i wr => ∃ (k : Nat) (out : List UInt8), k ≤ l.length ∧ out.length ≤ M ∧ i = .int .i64 k ∧ Hid (Lz.ex M out ((l.drop k).map Lz.Tr.tok) = R) ∧ wr.ownsRow w.heap.size 5 1 v out.length (out.map B) ∧ Below w.heap.size w wr) (fun _ i _ => l.length - (intOf i).toNat)
  case atStart => exact ⟨0, [], by omega, by simp, rfl, HR, World.ownsRow_nil _ _ _ _, hb1⟩
  case round =>
    obtain ⟨k, out, hkl, hout, rfl, hex, hown, hbel⟩ := hrel
    obtain ⟨a7, c7, rfl⟩ := own_form hown
    by_cases hlt : k < l.length
    · obtain ⟨bk, o, rfl, _, hbk, c0, c1, c2⟩ := (HT.out.below (Nat.le_refl _) hbel).get k hlt
      obtain ⟨hraw, hgood⟩ := Lz.Tr.tok_raw (HF.out l[k] (List.getElem_mem hlt))
      have hstep : l.drop k = l[k] :: l.drop (k + 1) := List.drop_eq_getElem_cons hlt
      have HE : Hid (Lz.ex M out (l[k].tok :: (l.drop (k + 1)).map Lz.Tr.tok) = R) := by
        have := hex.out
        rw [hstep, List.map_cons] at this
        exact this
      clear hstep hex
      generalize l[k] = t at *
      generalize t.tok = u at *
      subst hraw
      have hby := bytes_any u.raw
      rw [Lz.many_raw hgood] at hby
      have happ := fun V v' o' => append_any u o' v' w.heap.size V hgood
      obtain ⟨b, n, d⟩ := u
      unfold tokV at hby happ
      dsimp only [Lz.Tk.raw] at c0 c1 c2 hby happ
      have hn2 : n ≤ 255 := by rcases hgood with ⟨h1, _⟩ | ⟨_, _, h1, _⟩ <;> simp at h1 <;> omega
      have HN : Hid ((Lz.Tk.mk b n d).size ≤ 255) := by
        show (if n = 0 then 1 else n) ≤ 255
        split <;> omega
      rw [Lz.ex] at HE
      have HL := Lz.make_length ⟨b, n, d⟩ out
      generalize (Lz.Tk.mk b n d).size = z at *
      have hbs := hbel.size
      have hz255 := HN.out
      by_cases hd : out.length < d
      · have HR4 : Hid (R = ([], 4)) := by
          have h := HE.out
          rw [if_pos hd] at h
          exact h.symm
        clear HE
        have hq : decide ((out.length : Int) < (d : Int)) = true := decide_eq_true (by omega)
        go_wp2_with fail
        go_ret2
        exact ⟨by rw [HR4.out]; rfl, hbel.alloc hbs _⟩
      have hd' : d ≤ out.length := by omega
      have hq : decide ((out.length : Int) < (d : Int)) = false := decide_eq_false (by omega)
      go_wp2_with fail
      refine (hby _).mono ?_
      rintro e w2 ⟨rfl, hb2⟩
      have x0 := (hb2.cell (p := ⟨wr.heap.size, 0, none⟩) (by simp)).trans (show _ = some (.int .u8 (b.toNat : Int)) from by simp)
      have x1 := (hb2.cell (p := ⟨wr.heap.size, 1, none⟩) (by simp)).trans (show _ = some (.int .i64 (n : Int)) from by simp)
      have x2 := (hb2.cell (p := ⟨wr.heap.size, 2, none⟩) (by simp)).trans (show _ = some (.int .i64 (d : Int)) from by simp)
      have hB2 : Below w.heap.size w w2 := (hbel.alloc hbs _).trans (hb2.mono (by simp; omega))
      have hown2 := own_below (hown.alloc _) hb2
      have hs2 := hB2.size
      clear hby hb2 hown hbel c0 c1 c2
      by_cases hz : M < out.length + z
      · have HR2 : Hid (R = ([], 2)) := by
          have h := HE.out
          rw [if_neg hd, if_pos hz] at h
          exact h.symm
        have hq2 : decide ((M : Int) < (out.length : Int) + (z : Int)) = true := decide_eq_true (by omega)
        clear HE
        go_wp2_with fail
        go_ret2
        exact ⟨by rw [HR2.out]; rfl, hB2⟩
      have HE2 : Hid (Lz.ex M ((Lz.Tk.mk b n d).make out) ((l.drop (k + 1)).map Lz.Tr.tok) = R) := by
        have h := HE.out
        rw [if_neg hd, if_neg hz] at h
        exact h
      have hq2 : decide ((M : Int) < (out.length : Int) + (z : Int)) = false := decide_eq_false (by omega)
      have hap := happ w2 _ out hd' hs2 (by omega) hown2
      generalize (Lz.Tk.mk b n d).make out = mk at *
      clear HE happ hown2
      go_wp2_with fail
      refine hap.mono ?_
      rintro e w3 ⟨v3, rfl, hown3, hb3⟩
      have HO3 : Hid (w3.ownsRow w.heap.size 5 1 v3 mk.length (mk.map B)) := hown3
      have HB3 : Hid (Below w.heap.size w w3) := hB2.trans hb3
      clear hap hown3 hb3 hB2 x0 x1 x2
      go_wp2_with fail
      go_roundw
      case rel => exact ⟨k + 1, mk, by omega, by omega, by go_num, HE2, HO3.out, HB3.out⟩
      case measure => simp only [intOf]; omega
    · have HRE : Hid (R = (out, 0)) := by
        have := hex.out
        rw [List.drop_eq_nil_of_le (by omega)] at this
        exact this.symm
      have hstr := run_str hown
      clear hown hex
      go_wp2_with fail
      go_ret2
      exact ⟨by rw [HRE.out]; rfl, hbel⟩
theorem expand_any (v : Value) (l : List Lz.Tr) (most : Int) (w : World) (h : Toks w v l) (hl : l.length ≤ 140737488351232) :
    Calls Try.prog 42 #[v, .int .i64 most] w fun e w' => e = .returned (.tuple #[.string ⟨(Lz.expd l most).1.toArray⟩, .int .i64 (Lz.expd l most).2]) ∧ Below w.heap.size w w' := by
  unfold Lz.expd
  by_cases hm : most < 0 ∨ 4096 < most
  · rw [if_pos hm]
    refine (expand_arg v most w hm).mono ?_
    rintro e w' ⟨rfl, rfl⟩
    exact ⟨rfl, Below.refl _ _⟩
  · rw [if_neg hm]
    obtain ⟨M, rfl⟩ := Int.eq_ofNat_of_zero_le (show 0 ≤ most by omega)
    by_cases hc : Lz.chk l = 0
    · rw [if_pos hc]
      exact expand_in v l M _ w h (by omega) hc rfl
    · rw [if_neg hc]
      exact expand_chk v l M w h hl (by omega) hc
end Go.Proofs.Ytgdkfaphbbdnbaa

namespace Go.Proofs.Ytgdkfaphbbdnbaa
open Go.RowKit
set_option maxRecDepth 4000

namespace Lz
theorem rdA_rt (out : List Tk) (X : Bs) (h : X ≠ []) :
    rdA out X = (if (rt X).2.2 = 0 then (if out.length = 4096 then ([], 2) else rdA (out ++ [(rt X).1.tok]) (X.drop (rt X).2.1)) else ([], (rt X).2.2)) ∧
    ((rt X).2.2 = 0 → (rt X).1.tok.raw = (rt X).1 ∧ 1 ≤ (rt X).2.1 ∧ (rt X).2.1 ≤ X.length) := by
  match X with
  | [] => exact absurd rfl h
  | [a] => exact ⟨rfl, fun e => by simp [rt] at e⟩
  | [a, x] =>
    by_cases h0 : a = 0
    · subst h0
      exact ⟨rdA_letter out x [], fun _ => ⟨rfl, by simp [rt], by simp [rt]⟩⟩
    · have e : rt [a, x] = (⟨0, 0, 0⟩, 0, 3) := if_neg h0
      rw [e, rdA_short out a x h0]
      exact ⟨rfl, fun h => by simp at h⟩
  | a :: x :: y :: r =>
    by_cases h0 : a = 0
    · have e : rt (a :: x :: y :: r) = (⟨x, 0, 0⟩, 2, 0) := if_pos h0
      rw [e, h0]
      exact ⟨rdA_letter out x (y :: r), fun _ => ⟨rfl, by dsimp only; omega, by simp⟩⟩
    · rw [rdA_copy out a x y r h0]
      by_cases hd : 1 ≤ x.toNat + 256 * y.toNat ∧ x.toNat + 256 * y.toNat ≤ 1024
      · have e : rt (a :: x :: y :: r) = (⟨0, a.toNat, (x.toNat + 256 * y.toNat : Nat)⟩, 3, 0) := (if_neg h0).trans (if_pos hd)
        rw [e, if_neg (by omega)]
        exact ⟨rfl, fun _ => ⟨rfl, by dsimp only; omega, by simp⟩⟩
      · have e : rt (a :: x :: y :: r) = (⟨0, 0, 0⟩, 0, 4) := (if_neg h0).trans (if_neg hd)
        rw [e, if_pos (by omega)]
        exact ⟨rfl, fun h => by simp at h⟩
/-- P18's Read -/
def rd (X : Bs) : List Tk × Nat := rdA [] X
def rdR (X : Bs) : List Tr := (rd X).1.map Tk.raw
end Lz
theorem ext_toList (s : ByteArray) (p : Nat) : (s.extract p s.size).data.toList = s.data.toList.drop p := by
  rw [ByteArray.data_extract]
  simp [List.extract_eq_take_drop]
  rw [List.take_of_length_le]
  rw [List.length_drop, ← Lib.size_eq]
  omega

set_option maxHeartbeats 2000000 in
theorem read_of (s : ByteArray) (w : World) (hs : s.size ≤ 140737488351232) (L : Lz.Bs) (R : List Lz.Tk × Nat) (hL : s.data.toList = L) (hR : Lz.rdA [] L = R) :
    Calls Try.prog 41 #[.string s] w fun e w' => ∃ v, e = .returned (.tuple #[v, .int .i64 R.2]) ∧ w'.ownsRow w.heap.size 79 3 v (R.1.map Lz.Tk.raw).length (rowC (R.1.map Lz.Tk.raw)) ∧ Below w.heap.size w w' := by
  have hLl : L.length = s.size := by rw [← hL]; exact (Lib.size_eq s).symm
  have HLL : Hid (L.length = s.size) := hLl
  have HX : Hid (∀ p, p ≤ s.size → (s.extract p s.size).data.toList = L.drop p) := fun p _ => by rw [← hL]; exact ext_toList s p
  have HR : Hid (Lz.rdA [] L = R) := hR
  clear hL hR hLl
  obtain ⟨i0, hi, hz0, hz1, hz2⟩ := info_parts info_tok
  go_enter Try.func41, Try.ntmps41
  go_wp2_with fail
  go_loopw [4, 5] (fun v i wr => ∃ (p : Nat) (out : List Lz.Tk), p ≤ s.size ∧ out.length ≤ 4096 ∧ i = .int .i64 p ∧ Hid (Lz.rdA out (L.drop p) = R) ∧ wr.ownsRow w.heap.size 79 3 v (out.map Lz.Tk.raw).length (rowC (out.map Lz.Tk.raw)) ∧ Below w.heap.size w wr) (fun _ i _ => s.size - (intOf i).toNat)
  case atStart => exact ⟨0, [], by omega, by simp, rfl, HR, World.ownsRow_nil _ _ _ _, Below.refl _ _⟩
  case round =>
    obtain ⟨p, out, hp, ho, rfl, hrd, hown, hbel⟩ := hrel
    by_cases hlt : p < s.size
    · have hex := HX.out p hp
      have hdl : (L.drop p).length = s.size - p := by rw [List.length_drop, HLL.out]
      have hXs : (s.extract p s.size).size = s.size - p := by rw [Lib.size_eq, hex, hdl]
      have hne : L.drop p ≠ [] := fun e => by rw [e] at hdl; simp at hdl; omega
      have hcall := fun V => rt_any (s.extract p s.size) V (by omega) (by omega)
      obtain ⟨hst, hok⟩ := Lz.rdA_rt out (L.drop p) hne
      rw [hex] at hcall
      have HD : Hid (∀ n, (L.drop p).drop n = L.drop (p + n)) := fun n => List.drop_drop
      have HS : Hid (Lz.rdA out (L.drop p) = if (Lz.rt (L.drop p)).2.2 = 0 then (if out.length = 4096 then ([], 2) else Lz.rdA (out ++ [(Lz.rt (L.drop p)).1.tok]) (L.drop (p + (Lz.rt (L.drop p)).2.1))) else ([], (Lz.rt (L.drop p)).2.2)) := by
        rw [← HD.out]; exact hst
      rw [hrd.out] at HS
      have HOK : Hid ((Lz.rt (L.drop p)).2.2 = 0 → (Lz.rt (L.drop p)).1.tok.raw = (Lz.rt (L.drop p)).1 ∧ 1 ≤ (Lz.rt (L.drop p)).2.1 ∧ p + (Lz.rt (L.drop p)).2.1 ≤ s.size) := fun e => by
        obtain ⟨h1, h2, h3⟩ := hok e
        exact ⟨h1, h2, by omega⟩
      clear hex hst hok hne hdl hXs hrd
      generalize Lz.rt (L.drop p) = q at *
      obtain ⟨t, n, e⟩ := q
      dsimp only at HS HOK hcall
      generalize hse : s.extract p s.size = sx at *
      unfold tokV at hcall
      have hbs := hbel.size
      obtain ⟨a4, c4, rfl⟩ := own_form hown
      rw [List.length_map]
      go_wp2_with fail
      refine (hcall _).mono ?_
      rintro er w2 ⟨rfl, hb2⟩
      have hB2 := hbel.trans (hb2.mono hbs)
      have hown2 := own_below hown hb2
      rw [List.length_map] at hown2
      have hs2 := hB2.size
      clear hcall hb2 hbel hown hse
      by_cases he : e = 0
      · subst he
        rw [if_pos rfl] at HS
        obtain ⟨hraw, hn1, hn2⟩ := HOK.out rfl
        clear HOK
        by_cases ho2 : out.length = 4096
        · have HR2 : Hid (R = ([], 2)) := by have h := HS.out; rw [if_pos ho2] at h; exact h
          have hq : ((out.length : Int) == 4096) = true := by rw [ho2]; rfl
          clear HS ho2
          go_wp2_with fail
          go_ret2
          refine ⟨.slice none 0 0, ?_, ?_, hB2.alloc hs2 _⟩
          · rw [HR2.out]; rfl
          · rw [HR2.out]; exact World.ownsRow_nil _ _ _ _
        · have HR2 : Hid (R = Lz.rdA (out ++ [t.tok]) (L.drop (p + n))) := by have h := HS.out; rw [if_neg ho2] at h; exact h
          have hq : ((out.length : Int) == 4096) = false := by rw [beq_eq_false_iff_ne]; omega
          clear HS
          go_wp2_with (at_builtin; refine wpList_append_own _ rfl (.tmp 27) (.tmp 29) 47 rfl w.heap.size 79 i0 (.agg #[.int .u8 0, .int .i64 0, .int .i64 0]) 3 24 Try.underlying47 hi hz0 hz1 hz2 rfl (by decide) _ _ _ rfl ((hown2.alloc _).alloc _) ⟨w2.heap.size + 1, 0, none⟩ 1 1 (tokC t) rfl rfl ?c1 ?c2 ?c3 ?c4 ?c5 ?_)
          case c1 =>
            intro j u hj
            match j, hj with
            | 0, hj => simp [tokC] at hj; subst hj; simp [Addr.add]
            | 1, hj => simp [tokC] at hj; subst hj; simp [Addr.add]
            | 2, hj => simp [tokC] at hj; subst hj; simp [Addr.add]
          case c2 => intro u hu; simp [tokC] at hu; rcases hu with rfl | rfl | rfl <;> rfl
          case c3 => unfold maxLen; omega
          case c4 => omega
          case c5 => simp; omega
          intro v' w4 hown4 hgrow _
          have HB4 : Hid (Below w.heap.size w w4) := ((hB2.alloc hs2 _).alloc (by simp; omega) _).grown hgrow (by simp; omega) fun k hk => (hown2.lt k hk).1
          have HO4 : Hid (w4.ownsRow w.heap.size 79 3 v' ((out ++ [t.tok]).map Lz.Tk.raw).length (rowC ((out ++ [t.tok]).map Lz.Tk.raw))) := by
            rw [List.map_append, List.map_singleton, hraw]
            have h4 := hown4
            rw [← List.length_map (f := Lz.Tk.raw)] at h4
            exact own_tok h4
          clear hown4 hgrow hown2 hB2
          go_wp2_with fail
          go_roundw
          case rel => exact ⟨p + n, out ++ [t.tok], hn2, by simp; omega, by go_num, HR2.out.symm, HO4.out, HB4.out⟩
          case measure => simp only [intOf]; omega
      · have HR2 : Hid (R = ([], e)) := by have h := HS.out; rw [if_neg he] at h; exact h
        have hq : ((e : Int) != 0) = true := by rw [bne_iff_ne]; omega
        clear HS HOK
        go_wp2_with fail
        go_ret2
        refine ⟨.slice none 0 0, ?_, ?_, hB2.alloc hs2 _⟩
        · rw [HR2.out]; rfl
        · rw [HR2.out]; exact World.ownsRow_nil _ _ _ _
    · have HR2 : Hid (R = (out, 0)) := by
        have h := hrd.out
        rw [List.drop_eq_nil_of_le (by rw [HLL.out]; omega)] at h
        exact h.symm
      clear hrd
      go_wp2_with fail
      go_ret2
      refine ⟨u4, ?_, ?_, hbel⟩
      · rw [HR2.out]; rfl
      · rw [HR2.out]; exact hown
theorem read_any (s : ByteArray) (w : World) (hs : s.size ≤ 140737488351232) :
    Calls Try.prog 41 #[.string s] w fun e w' => ∃ v, e = .returned (.tuple #[v, .int .i64 (Lz.rd s.data.toList).2]) ∧ w'.ownsRow w.heap.size 79 3 v (Lz.rdR s.data.toList).length (rowC (Lz.rdR s.data.toList)) ∧ Below w.heap.size w w' :=
  read_of s w hs _ _ rfl rfl
end Go.Proofs.Ytgdkfaphbbdnbaa

namespace Go.Proofs.Ytgdkfaphbbdnbaa
open Go.RowKit
set_option maxRecDepth 4000

namespace Lz
/-- P18's Pack -/
def packd (l : List Tr) : Bs := if chk l = 0 then pack (l.map Tr.tok) else []
theorem pack_snoc (l : List Tk) (t : Tk) : pack (l ++ [t]) = pack l ++ t.text := by simp [pack]
theorem text_length (t : Tk) : t.text.length ≤ 3 := by
  unfold Tk.text
  split <;> simp
theorem pack_length (l : List Tk) : (pack l).length ≤ 3 * l.length := by
  induction l with
  | nil => simp [pack]
  | cons t l ih =>
    have := text_length t
    show (t.text ++ pack l).length ≤ _
    rw [List.length_append, List.length_cons]
    omega
end Lz

set_option maxHeartbeats 400000 in
theorem pack_chk (v : Value) (l : List Lz.Tr) (w : World) (h : Toks w v l) (hl : l.length ≤ 140737488351232) (hc : Lz.chk l ≠ 0) :
    Calls Try.prog 25 #[v] w fun e w' => e = .returned (.tuple #[.string ⟨#[]⟩, .int .i64 (Lz.chk l)]) ∧ Below w.heap.size w w' := by
  have hk := check_any v l w h hl
  generalize Lz.chk l = c at *
  have hq : ((c : Int) != 0) = true := by rw [bne_iff_ne]; omega
  go_enter Try.func25, Try.ntmps25
  go_wp2_with fail
  refine hk.mono ?_
  rintro e w1 ⟨rfl, hb1⟩
  go_wp2_with fail
  go_ret2
  exact ⟨rfl, hb1⟩

set_option maxHeartbeats 2000000 in
theorem pack_in (v : Value) (l : List Lz.Tr) (F : Nat → List UInt8) (w : World) (h : Toks w v l) (hc : Lz.chk l = 0) (hF0 : F 0 = [])
    (hF : ∀ k (h : k < l.length), F (k + 1) = F k ++ l[k].tok.text) (hFl : ∀ k, k ≤ l.length → (F k).length ≤ 3 * k) :
    Calls Try.prog 25 #[v] w fun e w' => e = .returned (.tuple #[.string ⟨(F l.length).toArray⟩, .int .i64 0]) ∧ Below w.heap.size w w' := by
  obtain ⟨hl, hf⟩ := Lz.chk_zero hc
  have hk := check_any v l w h (by omega)
  rw [hc] at hk
  have HF : Hid (∀ t ∈ l, t.form) := hf
  have HF0 : Hid (F 0 = []) := hF0
  have HFS : Hid (∀ k (h : k < l.length), F (k + 1) = F k ++ l[k].tok.text) := hF
  have HFL : Hid (∀ k, k ≤ l.length → (F k).length ≤ 3 * k) := hFl
  have HT : Hid (Toks w v l) := h
  obtain ⟨a, c, rfl⟩ := h.slice
  obtain ⟨i0, hi, hz0, hz1, hz2⟩ := info_parts info_u8
  clear hf hc h hF0 hF hFl
  go_enter Try.func25, Try.ntmps25
  go_wp2_with fail
  refine hk.mono ?_
  rintro e w1 ⟨rfl, hb1⟩
  clear hk
  go_wp2_with fail
  go_loopw [5, 15] (fun v i wr => ∃ (k : Nat), k ≤ l.length ∧ i = .int .i64 k ∧ wr.ownsRow w.heap.size 5 1 v (F k).length ((F k).map B) ∧ Below w.heap.size w wr) (fun _ i _ => l.length - (intOf i).toNat)
  case atStart => exact ⟨0, by omega, rfl, by rw [HF0.out]; exact World.ownsRow_nil _ _ _ _, hb1⟩
  case round =>
    obtain ⟨k, hkl, rfl, hown, hbel⟩ := hrel
    have hFk := HFL.out k hkl
    by_cases hlt : k < l.length
    · obtain ⟨bk, o, rfl, _, hbk, c0, c1, c2⟩ := (HT.out.below (Nat.le_refl _) hbel).get k hlt
      obtain ⟨hraw, hgood⟩ := Lz.Tr.tok_raw (HF.out l[k] (List.getElem_mem hlt))
      have HE : Hid (F (k + 1) = F k ++ l[k].tok.text) := HFS.out k hlt
      generalize l[k] = t at *
      generalize t.tok = u at *
      subst hraw
      have hle := letter_any u.raw
      rw [letter_good hgood] at hle
      obtain ⟨b, n, d⟩ := u
      unfold tokV at hle
      dsimp only [Lz.Tk.raw] at c0 c1 c2 hle
      unfold Lz.Tk.text at HE
      dsimp only at HE
      generalize hFe : F k = out at *
      have hbs := hbel.size
      by_cases hn0 : n = 0
      · subst hn0
        rw [if_pos rfl] at HE
        rw [decide_eq_true rfl] at hle
        go_wp2_with fail
        refine (hle _).mono ?_
        rintro e w2 ⟨rfl, hb2⟩
        have x0 := (hb2.cell (p := ⟨wr.heap.size, 0, none⟩) (by simp)).trans (show _ = some (.int .u8 (b.toNat : Int)) from by simp)
        have hB2 : Below w.heap.size w w2 := (hbel.alloc hbs _).trans (hb2.mono (by simp; omega))
        have hown2 := own_below (hown.alloc _) hb2
        have hs2 := hB2.size
        clear hle hb2 hown hbel c0 c1 c2
        go_wp2_with (at_builtin; refine wpList_append_own _ rfl (.tmp 21) (.tmp 24) 26 rfl w.heap.size 5 i0 (.int .u8 0) 1 1 Try.underlying26 hi hz0 hz1 hz2 rfl (by decide) _ _ _ rfl (hown2.alloc _) ⟨w2.heap.size, 0, none⟩ 2 2 [.int .u8 0, .int .u8 (b.toNat : Int)] rfl rfl ?c1 ?c2 ?c3 ?c4 ?c5 ?_)
        case c1 =>
          intro j u hj
          match j, hj with
          | 0, hj => simp at hj; subst hj; simp [Addr.add]
          | 1, hj => simp at hj; subst hj; simp [Addr.add]
        case c2 => intro u hu; simp at hu; rcases hu with rfl | rfl <;> rfl
        case c3 => unfold maxLen; omega
        case c4 => omega
        case c5 => simp; omega
        intro v1 w3 hown3 hgrow _
        have HO : Hid (w3.ownsRow w.heap.size 5 1 v1 (F (k + 1)).length ((F (k + 1)).map B)) := by rw [HE.out]; show World.ownsRow _ _ _ _ _ _ _; simpa [B] using hown3
        have HB3 : Hid (Below w.heap.size w w3) := (hB2.alloc hs2 _).grown hgrow (by simp; omega) fun j hj => (hown2.lt j hj).1
        clear hown3 hgrow hown2 hB2 x0
        go_wp2_with fail
        go_roundw
        case rel => exact ⟨k + 1, by omega, by go_num, HO.out, HB3.out⟩
        case measure => simp only [intOf]; omega
      · have hg : n ≤ 255 ∧ d ≤ 1024 := by rcases hgood with ⟨h1, _⟩ | ⟨_, _, h1, _, h2⟩ <;> dsimp only at * <;> omega
        rw [if_neg hn0] at HE
        rw [decide_eq_false hn0] at hle
        have hg1 := hg.1
        have hg2 := hg.2
        clear hg
        go_wp2_with fail
        refine (hle _).mono ?_
        rintro e w2 ⟨rfl, hb2⟩
        have x0 := (hb2.cell (p := ⟨wr.heap.size, 0, none⟩) (by simp)).trans (show _ = some (.int .u8 (b.toNat : Int)) from by simp)
        have x1 := (hb2.cell (p := ⟨wr.heap.size, 1, none⟩) (by simp)).trans (show _ = some (.int .i64 (n : Int)) from by simp)
        have x2 := (hb2.cell (p := ⟨wr.heap.size, 2, none⟩) (by simp)).trans (show _ = some (.int .i64 (d : Int)) from by simp)
        have hB2 : Below w.heap.size w w2 := (hbel.alloc hbs _).trans (hb2.mono (by simp; omega))
        have hown2 := own_below (hown.alloc _) hb2
        have hs2 := hB2.size
        clear hle hb2 hown hbel c0 c1 c2
        go_wp2_with (at_builtin; refine wpList_append_own _ rfl (.tmp 26) (.tmp 37) 26 rfl w.heap.size 5 i0 (.int .u8 0) 1 1 Try.underlying26 hi hz0 hz1 hz2 rfl (by decide) _ _ _ rfl (hown2.alloc _) ⟨w2.heap.size, 0, none⟩ 3 3 [.int .u8 (n : Int), .int .u8 ((d : Int) % 256), .int .u8 ((d : Int) / 256)] rfl rfl ?d1 ?d2 ?d3 ?d4 ?d5 ?_)
        case d1 =>
          intro j u hj
          match j, hj with
          | 0, hj => simp at hj; subst hj; simp [Addr.add]
          | 1, hj => simp at hj; subst hj; simp [Addr.add]
          | 2, hj => simp at hj; subst hj; simp [Addr.add]
        case d2 => intro u hu; simp at hu; rcases hu with rfl | rfl | rfl <;> rfl
        case d3 => unfold maxLen; omega
        case d4 => omega
        case d5 => simp; omega
        intro v1 w3 hown3 hgrow _
        have HO : Hid (w3.ownsRow w.heap.size 5 1 v1 (F (k + 1)).length ((F (k + 1)).map B)) := by
          rw [HE.out, List.map_append]
          have e3 : [UInt8.ofNat n, UInt8.ofNat (d % 256), UInt8.ofNat (d / 256)].map B = [.int .u8 (n : Int), .int .u8 ((d : Int) % 256), .int .u8 ((d : Int) / 256)] := by
            have k1 : ((UInt8.ofNat n).toNat : Int) = n := by simp; omega
            have k2 : ((UInt8.ofNat (d % 256)).toNat : Int) = (d : Int) % 256 := by simp
            have k3 : ((UInt8.ofNat (d / 256)).toNat : Int) = (d : Int) / 256 := by simp; omega
            simp only [List.map_cons, List.map_nil, B, k1, k2, k3]
          rw [e3]
          show World.ownsRow _ _ _ _ _ _ _
          simpa using hown3
        have HB3 : Hid (Below w.heap.size w w3) := (hB2.alloc hs2 _).grown hgrow (by simp; omega) fun j hj => (hown2.lt j hj).1
        clear hown3 hgrow hown2 hB2 x0 x1 x2
        go_wp2_with fail
        go_roundw
        case rel => exact ⟨k + 1, by omega, by go_num, HO.out, HB3.out⟩
        case measure => simp only [intOf]; omega
    · obtain rfl : k = l.length := by omega
      have hstr := run_str hown
      clear hown
      go_wp2_with fail
      go_ret2
      exact ⟨rfl, hbel⟩
theorem pack_any (v : Value) (l : List Lz.Tr) (w : World) (h : Toks w v l) (hl : l.length ≤ 140737488351232) :
    Calls Try.prog 25 #[v] w fun e w' => e = .returned (.tuple #[.string ⟨(Lz.packd l).toArray⟩, .int .i64 (Lz.chk l)]) ∧ Below w.heap.size w w' := by
  unfold Lz.packd
  by_cases hc : Lz.chk l = 0
  · rw [if_pos hc, hc]
    have := pack_in v l (fun k => Lz.pack ((l.take k).map Lz.Tr.tok)) w h hc rfl (fun k hk => ?_) (fun k hk => ?_)
    · rw [List.take_length] at this
      exact this
    · show Lz.pack _ = Lz.pack _ ++ _
      rw [List.take_succ_eq_append_getElem hk, List.map_append, ← Lz.pack_snoc]
      rfl
    · refine Nat.le_trans (Lz.pack_length _) ?_
      rw [List.length_map, List.length_take]
      omega
  · rw [if_neg hc]
    exact pack_chk v l w h hl hc
end Go.Proofs.Ytgdkfaphbbdnbaa

namespace Go.Proofs.Ytgdkfaphbbdnbaa
open Go.RowKit

namespace Lz
theorem tok_raws {l : List Tr} (h : ∀ t ∈ l, t.form) : (l.map Tr.tok).map Tk.raw = l := by
  rw [List.map_map]
  conv => rhs; rw [← List.map_id l]
  exact List.map_congr_left fun t ht => (Tr.tok_raw (h t ht)).1
theorem read_packd {l : List Tr} (h : chk l = 0) : (rd (packd l)).2 = 0 ∧ rdR (packd l) = l := by
  obtain ⟨hl, hf⟩ := chk_zero h
  have hp : packd l = pack (l.map Tr.tok) := if_pos h
  have hr : rd (packd l) = (l.map Tr.tok, 0) := by
    rw [hp]
    exact read_pack (l.map Tr.tok) [] (fun t ht => by
      obtain ⟨u, hu, rfl⟩ := List.mem_map.1 ht
      exact (Tr.tok_raw (hf u hu)).2) (by rw [List.length_map]; simp; omega)
  refine ⟨by rw [hr], ?_⟩
  unfold rdR
  rw [hr]
  exact tok_raws hf
theorem rdA_error (k : Nat) (out : List Tk) (X : Bs) (hk : X.length ≤ k) (h : (rdA out X).2 ≠ 0) : (rdA out X).1 = [] ∧ X ≠ [] := by
  induction k generalizing out X with
  | zero =>
    obtain rfl : X = [] := List.length_eq_zero_iff.1 (by omega)
    exact absurd rfl h
  | succ k ih =>
    by_cases hX : X = []
    · subst hX; exact absurd rfl h
    · obtain ⟨h1, h2⟩ := rdA_rt out X hX
      refine ⟨?_, hX⟩
      rw [h1] at h ⊢
      by_cases e : (rt X).2.2 = 0
      · rw [if_pos e] at h ⊢
        obtain ⟨_, h3, h4⟩ := h2 e
        by_cases e2 : out.length = 4096
        · rw [if_pos e2]
        · rw [if_neg e2] at h ⊢
          exact (ih _ _ (by rw [List.length_drop]; omega) h).1
      · rw [if_neg e]
theorem packd_read {X : Bs} (h : (rd X).2 = 0) : chk (rdR X) = 0 ∧ packd (rdR X) = X := by
  obtain ⟨m, h1, h2, h3, h4⟩ := pack_read X.length X (Nat.le_refl _) [] (rd X).1 (by rw [← h]; rfl) (by simp)
  rw [List.nil_append] at h1
  have hc : chk (rdR X) = 0 := by
    unfold chk rdR
    rw [if_neg (by rw [List.length_map]; omega), if_pos]
    intro t ht
    obtain ⟨u, hu, rfl⟩ := List.mem_map.1 ht
    exact (h3 u (by rw [← h1]; exact hu)).form
  refine ⟨hc, ?_⟩
  unfold packd
  rw [if_pos hc]
  unfold rdR
  rw [List.map_map, h1, ← h2]
  congr 1
  conv => rhs; rw [← List.map_id m]
  exact List.map_congr_left fun t _ => raw_tok t
end Lz
end Go.Proofs.Ytgdkfaphbbdnbaa
