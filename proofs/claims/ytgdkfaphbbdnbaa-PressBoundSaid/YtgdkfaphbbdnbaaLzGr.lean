/-
  What Greedy of package lz answers.
-/
import Derived.Test.YtgdkfaphbbdnbaaLzBox
namespace Go.Proofs.Ytgdkfaphbbdnbaa
open Go.RowKit
set_option maxRecDepth 4000

theorem own_tok {base : Nat} {w1 : World} {v1 : Value} {l : List Lz.Tr} {t : Lz.Tr} (h : w1.ownsRow base 79 3 v1 (l.length + 1) (rowC l ++ tokC t)) : w1.ownsRow base 79 3 v1 (l ++ [t]).length (rowC (l ++ [t])) := by
  rw [rowC_more, List.length_append, List.length_singleton]; exact h
theorem own_form {base : Nat} {e : TypeId} {k n : Nat} {w : World} {v : Value} {xs : List Value} (h : w.ownsRow base e k v n xs) : ∃ a c, v = .slice a n c := by
  rcases h.2 with ⟨rfl, h0⟩ | ⟨g, cap, cur, rfl, _⟩
  · exact ⟨_, _, by rw [h0]⟩
  · exact ⟨_, _, rfl⟩
namespace Lz
def greedyR (s : Bs) : List Tr := (greedy s).map Tk.raw
def restR (s : Bs) (p : Nat) : List Tr := (rest s p).map Tk.raw
theorem tok_found {s : Bs} {p : Nat} (h : found s p = true) : (tokAt s p).raw = best s p := by
  have h := of_decide_eq_true h
  unfold tokAt best Tk.raw
  rw [if_neg (by omega)]
theorem tok_none {s : Bs} {p : Nat} (h : found s p = false) : (tokAt s p).raw = ⟨s.getD p 0, 0, 0⟩ := by
  have h := of_decide_eq_false h
  unfold tokAt Tk.raw
  rw [if_pos (by omega)]
  rfl
theorem many_size (s : Bs) (p : Nat) (hp : p < s.length) : (tokAt s p).raw.many = ((tokAt s p).size : Nat) := by
  unfold Tr.many Tk.size Tk.raw
  rcases fits_tokAt hp with ⟨h1, h2, _⟩ | ⟨_, h1, h2, h3, h4, _⟩
  · dsimp only
    rw [if_pos ⟨by omega, by omega⟩, if_pos h1]; rfl
  · dsimp only
    rw [if_neg (by omega), if_neg (by omega)]
end Lz
theorem getD_byte (s : ByteArray) (k : Nat) (h : k < s.size) : s.data.toList.getD k 0 = s[k] := by
  rw [List.getD_eq_getElem?_getD, byte_get s k h]; rfl

set_option maxHeartbeats 400000 in
theorem greedy_large (s : ByteArray) (w : World) (hs : 4096 < s.size) (_h : s.size ≤ 140737488351232) :
    Calls Try.prog 24 #[.string s] w fun e w' => e = .returned (.tuple #[.slice none 0 0, .int .i64 2]) ∧ w' = w := by
  go_enter Try.func24, Try.ntmps24
  go_wp2_with fail
  go_ret2
  exact ⟨rfl, rfl⟩

set_option maxHeartbeats 1000000 in
theorem greedy_of (s : ByteArray) (w : World) (hs : s.size ≤ 4096) (T : Nat → Lz.Tr) (z : Nat → Nat) (F : Nat → Bool) (Bt : Nat → Lz.Tr) (R : Nat → List Lz.Tr)
    (hc : ∀ p V, p < s.size → Calls Try.prog 49 #[.string s, .int .i64 p] V fun e w' => e = .returned (.tuple #[tokV (Bt p), .bool (F p)]) ∧ Below V.heap.size V w')
    (hf : ∀ p, p < s.size → F p = true → T p = Bt p) (hn : ∀ p (h : p < s.size), F p = false → T p = ⟨s[p], 0, 0⟩)
    (hz : ∀ p, p < s.size → (T p).many = (z p : Nat) ∧ 1 ≤ z p ∧ p + z p ≤ s.size)
    (hR : ∀ p, p < s.size → R p = T p :: R (p + z p)) (hR0 : R s.size = []) :
    Calls Try.prog 24 #[.string s] w fun e w' => ∃ v, e = .returned (.tuple #[v, .int .i64 0]) ∧ w'.ownsRow w.heap.size 79 3 v (R 0).length (rowC (R 0)) ∧ Below w.heap.size w w' := by
  have HC : Hid (∀ p V, p < s.size → Calls Try.prog 49 #[.string s, .int .i64 p] V fun e w' => e = .returned (.tuple #[tokV (Bt p), .bool (F p)]) ∧ Below V.heap.size V w') := hc
  have HF : Hid (∀ p, p < s.size → F p = true → T p = Bt p) := hf
  have HN : Hid (∀ p (h : p < s.size), F p = false → T p = ⟨s[p], 0, 0⟩) := hn
  have HZ : Hid (∀ p, p < s.size → (T p).many = (z p : Nat) ∧ 1 ≤ z p ∧ p + z p ≤ s.size) := hz
  have HR : Hid (∀ p, p < s.size → R p = T p :: R (p + z p)) := hR
  have HR0 : Hid (R s.size = []) := hR0
  clear hc hf hn hz hR hR0
  obtain ⟨i0, hi, hz0, hz1, hz2⟩ := info_parts info_tok
  go_enter Try.func24, Try.ntmps24
  go_wp2_with fail
  go_loopw [4, 5] (fun v i wr => ∃ (p : Nat) (out : List Lz.Tr), p ≤ s.size ∧ out.length ≤ p ∧ i = .int .i64 p ∧ Hid (out ++ R p = R 0) ∧ wr.ownsRow w.heap.size 79 3 v out.length (rowC out) ∧ Below w.heap.size w wr) (fun _ i _ => s.size - (intOf i).toNat)
  case atStart => exact ⟨0, [], by omega, by simp, rfl, rfl, World.ownsRow_nil _ _ _ _, Below.refl _ _⟩
  case round =>
    obtain ⟨p, out, hp, ho, rfl, hout, hown, hbel⟩ := hrel
    by_cases hlt : p < s.size
    · have hcall := fun V => HC.out p V hlt
      have hzp := HZ.out p hlt
      have hby := fun V => bytes_any (T p) V
      rw [hzp.1] at hby
      have hk1 := hzp.2.1
      have hk2 := hzp.2.2
      have HRp : Hid (R p = T p :: R (p + z p)) := HR.out p hlt
      have hFp := HF.out p hlt
      have hNp := HN.out p hlt
      generalize hTp : T p = t at *
      generalize hBp : Bt p = bt at *
      generalize hfp : F p = f at *
      generalize hzp' : z p = k at *
      have HK : Hid (z p = k) := hzp'
      clear hzp hTp hBp hfp hzp'
      unfold tokV at hcall hby
      go_upto_region 6 with fail
      go_wp2_with fail
      refine (hcall _).mono ?_
      rintro e w2 ⟨rfl, hb2⟩
      have hown2 := own_below hown hb2
      have hB2 := hbel.trans (hb2.mono hbel.size)
      have hs2 := hB2.size
      clear hcall hb2 hown hbel
      have HF2 : Hid (f = true → t = bt) := hFp
      have HN2 : Hid (f = false → t = ⟨s[p], 0, 0⟩) := hNp
      clear hFp hNp
      go_upto_if 22 with fail
      go_cut [] from 11 to 34 (fun wx => wx = w2.alloc (.cells #[.int .u8 t.lit.toNat, .int .i64 t.len, .int .i64 t.dist] 79))
      case first =>
        cases f with
        | true =>
          go_wp2_with fail
          go_meet
          rw [HF2.out trivial]
        | false =>
          go_wp2_with fail
          go_meet
          rw [HN2.out trivial]
      case rest =>
      obtain rfl := hcut
      clear HF2 HN2
      go_wp2_with (at_builtin; refine wpList_append_own _ rfl (.tmp 27) (.tmp 29) 47 rfl w.heap.size 79 i0 (.agg #[.int .u8 0, .int .i64 0, .int .i64 0]) 3 24 Try.underlying47 hi hz0 hz1 hz2 rfl (by decide) _ _ _ rfl ((hown2.alloc _).alloc _) ⟨w2.heap.size + 1, 0, none⟩ 1 1 (tokC t) rfl rfl ?c1 ?c2 ?c3 ?c4 ?c5 ?_)
      case c1 =>
        intro j u hj
        match j, hj with
        | 0, hj => simp [tokC] at hj; subst hj; simp [Addr.add]
        | 1, hj => simp [tokC] at hj; subst hj; simp [Addr.add]
        | 2, hj => simp [tokC] at hj; subst hj; simp [Addr.add]
      case c2 => intro u hu; simp [tokC] at hu; rcases hu with rfl | rfl | rfl <;> rfl
      case c3 => unfold maxLen; omega
      case c4 => omega
      case c5 => simp; omega
      intro v' w4 hown4 hgrow _
      have hne : some w2.heap.size ≠ u4.ownBlock := fun e => by have := (hown2.lt _ e.symm).2; omega
      have x0 : w4.cell? ⟨w2.heap.size, 0, none⟩ = some (.int .u8 (t.lit.toNat : Int)) := hgrow.cell (by simp) hne
      have x1 : w4.cell? ⟨w2.heap.size, 1, none⟩ = some (.int .i64 t.len) := hgrow.cell (by simp) hne
      have x2 : w4.cell? ⟨w2.heap.size, 2, none⟩ = some (.int .i64 t.dist) := hgrow.cell (by simp) hne
      have hB4 : Below w.heap.size w w4 := ((hB2.alloc hs2 _).alloc (by simp; omega) _).grown hgrow (by simp; omega) fun k hk => (hown2.lt k hk).1
      have hown5 := own_tok hown4
      have hs4 := hB4.size
      clear hown4 hgrow hown2 hB2 hne
      go_wp2_with fail
      refine (hby _).mono ?_
      rintro e w6 ⟨rfl, hb6⟩
      have HO6 : Hid (w6.ownsRow w.heap.size 79 3 v' (out ++ [t]).length (rowC (out ++ [t]))) := own_below hown5 hb6
      have HB6 : Hid (Below w.heap.size w w6) := hB4.trans (hb6.mono hs4)
      have HOU : Hid ((out ++ [t]) ++ R (p + k) = R 0) := by
        show _ = _
        rw [← hout.out, HRp.out]
        simp
      clear hby hb6 hown5 hB4 x0 x1 x2
      go_wp2_with fail
      go_roundw
      case rel => exact ⟨p + k, out ++ [t], hk2, by simp; omega, by go_num, HOU, HO6.out, HB6.out⟩
      case measure => simp only [intOf]; omega
    · have HE : Hid (out = R 0) := by
        show _ = _
        rw [← hout.out, show p = s.size from by omega, HR0.out, List.append_nil]
      rw [HE.out] at hown
      clear HE hout
      go_wp2_with fail
      go_ret2
      exact ⟨_, rfl, hown, hbel⟩
theorem greedy_any (s : ByteArray) (w : World) (hs : s.size ≤ 4096) :
    Calls Try.prog 24 #[.string s] w fun e w' => ∃ v, e = .returned (.tuple #[v, .int .i64 0]) ∧ w'.ownsRow w.heap.size 79 3 v (Lz.greedyR s.data.toList).length (rowC (Lz.greedyR s.data.toList)) ∧ Below w.heap.size w w' := by
  have hl : s.data.toList.length = s.size := (Lib.size_eq s).symm
  refine greedy_of s w hs (fun p => (Lz.tokAt s.data.toList p).raw) (fun p => (Lz.tokAt s.data.toList p).size) (fun p => Lz.found s.data.toList p) (fun p => Lz.best s.data.toList p) (fun p => Lz.restR s.data.toList p)
    (fun p V hp => longest_any s p V hs (by omega)) (fun p _ hf => Lz.tok_found hf) (fun p hp hf => by rw [← getD_byte s p hp]; exact Lz.tok_none hf) (fun p hp => ?_) (fun p hp => ?_) ?_
  · exact ⟨Lz.many_size _ _ (by omega), Lz.Tk.size_pos _, by rw [← hl]; exact (Lz.fits_tokAt (by omega)).size⟩
  · show (Lz.rest _ _).map _ = _
    rw [Lz.rest_step _ _ (by omega)]
    rfl
  · show (Lz.rest _ _).map _ = _
    rw [Lz.rest_end _ _ (by omega)]
    rfl
end Go.Proofs.Ytgdkfaphbbdnbaa
