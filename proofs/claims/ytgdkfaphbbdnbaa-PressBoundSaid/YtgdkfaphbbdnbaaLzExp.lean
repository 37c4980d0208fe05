/-
  What Expand of package lz answers.
-/
import Derived.Test.YtgdkfaphbbdnbaaLzApp
import Derived.Test.YtgdkfaphbbdnbaaLzGr
namespace Go.Proofs.Ytgdkfaphbbdnbaa
open Go.RowKit
set_option maxRecDepth 4000

namespace Lz
def Tr.tok (t : Tr) : Tk := ⟨t.lit, t.len.toNat, t.dist.toNat⟩
theorem Tr.tok_raw {t : Tr} (h : t.form) : t.tok.raw = t ∧ Good t.tok := by
  obtain ⟨b, n, d⟩ := t
  unfold Tr.tok Tk.raw
  rcases h with ⟨h1, h2⟩ | ⟨h0, h1, h2, h3, h4⟩ <;> dsimp only at *
  · exact ⟨by congr <;> omega, .inl ⟨by dsimp only; omega, by dsimp only; omega⟩⟩
  · exact ⟨by congr <;> omega, .inr ⟨h0, by dsimp only; omega, by dsimp only; omega, by dsimp only; omega, by dsimp only; omega⟩⟩
theorem raw_tok (t : Tk) : t.raw.tok = t := by
  obtain ⟨b, n, d⟩ := t
  rfl
/-- P16's Expand -/
def expd (l : List Tr) (most : Int) : Bs × Nat := if most < 0 ∨ 4096 < most then ([], 1) else if chk l = 0 then ex most.toNat [] (l.map Tr.tok) else ([], chk l)
theorem chk_zero {l : List Tr} (h : chk l = 0) : l.length ≤ 4096 ∧ ∀ t ∈ l, t.form := by
  unfold chk at h
  split at h
  · omega
  · split at h
    · exact ⟨by omega, by assumption⟩
    · omega
theorem many_raw {t : Tk} (h : Good t) : t.raw.many = (t.size : Nat) := by
  unfold Tr.many Tk.size Tk.raw
  rcases h with ⟨h1, h2⟩ | ⟨_, h1, h2, h3, h4⟩
  · dsimp only
    rw [if_pos ⟨by omega, by omega⟩, if_pos h1]; rfl
  · dsimp only
    rw [if_neg (by omega), if_neg (by omega)]
theorem ex_len {most : Nat} {out : Bs} {l : List Tk} (ho : out.length ≤ most) : (ex most out l).1.length ≤ most := by
  induction l generalizing out with
  | nil => exact ho
  | cons t l ih =>
    rw [ex]
    split
    · exact Nat.zero_le _
    · split
      · exact Nat.zero_le _
      · exact ih (by rw [make_length]; omega)
end Lz

set_option maxHeartbeats 400000 in
theorem expand_arg (v : Value) (most : Int) (w : World) (h : most < 0 ∨ 4096 < most) :
    Calls Try.prog 42 #[v, .int .i64 most] w fun e w' => e = .returned (.tuple #[.string ⟨#[]⟩, .int .i64 1]) ∧ w' = w := by
  rcases h with h | h
  · go_enter Try.func42, Try.ntmps42
    go_wp2_with fail
    go_ret2
    exact ⟨rfl, rfl⟩
  · have h0 : decide (most < 0) = false := decide_eq_false (by omega)
    have h1 : decide (4096 < most) = true := decide_eq_true h
    go_enter Try.func42, Try.ntmps42
    go_wp2_with fail
    go_ret2
    exact ⟨rfl, rfl⟩

set_option maxHeartbeats 400000 in
theorem expand_chk (v : Value) (l : List Lz.Tr) (M : Nat) (w : World) (h : Toks w v l) (hl : l.length ≤ 140737488351232) (hM : M ≤ 4096) (hc : Lz.chk l ≠ 0) :
    Calls Try.prog 42 #[v, .int .i64 M] w fun e w' => e = .returned (.tuple #[.string ⟨#[]⟩, .int .i64 (Lz.chk l)]) ∧ Below w.heap.size w w' := by
  have hk := check_any v l w h hl
  generalize Lz.chk l = c at *
  have hq : ((c : Int) != 0) = true := by rw [bne_iff_ne]; omega
  have h0 : decide ((M : Int) < 0) = false := decide_eq_false (by omega)
  have h1 : decide (4096 < (M : Int)) = false := decide_eq_false (by omega)
  go_enter Try.func42, Try.ntmps42
  go_wp2_with fail
  refine hk.mono ?_
  rintro e w1 ⟨rfl, hb1⟩
  go_wp2_with fail
  go_ret2
  exact ⟨rfl, hb1⟩

set_option maxHeartbeats 2000000 in
theorem expand_in (v : Value) (l : List Lz.Tr) (M : Nat) (R : Lz.Bs × Nat) (w : World) (h : Toks w v l) (hM : M ≤ 4096) (hc : Lz.chk l = 0) (hR : Lz.ex M [] (l.map Lz.Tr.tok) = R) :
    Calls Try.prog 42 #[v, .int .i64 M] w fun e w' => e = .returned (.tuple #[.string ⟨R.1.toArray⟩, .int .i64 R.2]) ∧ Below w.heap.size w w' := by
  obtain ⟨hl, hf⟩ := Lz.chk_zero hc
  have hk := check_any v l w h (by omega)
  rw [hc] at hk
  have HF : Hid (∀ t ∈ l, t.form) := hf
  have HR : Hid (Lz.ex M [] (l.map Lz.Tr.tok) = R) := hR
  have HT : Hid (Toks w v l) := h
  obtain ⟨a, c, rfl⟩ := h.slice
  have h0 : decide ((M : Int) < 0) = false := decide_eq_false (by omega)
  have h1 : decide (4096 < (M : Int)) = false := decide_eq_false (by omega)
  clear hf hR hc h
  go_enter Try.func42, Try.ntmps42
  go_wp2_with fail
  refine hk.mono ?_
  rintro e w1 ⟨rfl, hb1⟩
  clear hk
  go_wp2_with fail
  go_loopw [7, 23] (fun v i wr => ∃ (k : Nat) (out : List UInt8), k ≤ l.length ∧ out.length ≤ M ∧ i = .int .i64 k ∧ Hid (Lz.ex M out ((l.drop k).map Lz.Tr.tok) = R) ∧ wr.ownsRow w.heap.size 5 1 v out.length (out.map B) ∧ Below w.heap.size w wr) (fun _ i _ => l.length - (intOf i).toNat)
  case atStart => exact ⟨0, [], by omega, by simp, rfl, HR, World.ownsRow_nil _ _ _ _, hb1⟩
  case round =>
    obtain ⟨k, out, hkl, hout, rfl, hex, hown, hbel⟩ := hrel
    obtain ⟨a7, c7, rfl⟩ := own_form hown
    by_cases hlt : k < l.length
    · obtain ⟨bk, o, rfl, _, hbk, c0, c1, c2⟩ := (HT.out.below (Nat.le_refl _) hbel).get k hlt
      obtain ⟨hraw, hgood⟩ := Lz.Tr.tok_raw (HF.out l[k] (List.getElem_mem hlt))
      have hstep : l.drop k = l[k] :: l.drop (k + 1) := List.drop_eq_getElem_cons hlt
      have HE : Hid (Lz.ex M out (l[k].tok :: (l.drop (k + 1)).map Lz.Tr.tok) = R) := by
        have := hex.out
        rw [hstep, List.map_cons] at this
        exact this
      clear hstep hex
      generalize l[k] = t at *
      generalize t.tok = u at *
      subst hraw
      have hby := bytes_any u.raw
      rw [Lz.many_raw hgood] at hby
      have happ := fun V v' o' => append_any u o' v' w.heap.size V hgood
      obtain ⟨b, n, d⟩ := u
      unfold tokV at hby happ
      dsimp only [Lz.Tk.raw] at c0 c1 c2 hby happ
      have hn2 : n ≤ 255 := by rcases hgood with ⟨h1, _⟩ | ⟨_, _, h1, _⟩ <;> simp at h1 <;> omega
      have HN : Hid ((Lz.Tk.mk b n d).size ≤ 255) := by
        show (if n = 0 then 1 else n) ≤ 255
        split <;> omega
      rw [Lz.ex] at HE
      have HL := Lz.make_length ⟨b, n, d⟩ out
      generalize (Lz.Tk.mk b n d).size = z at *
      have hbs := hbel.size
      have hz255 := HN.out
      by_cases hd : out.length < d
      · have HR4 : Hid (R = ([], 4)) := by
          have h := HE.out
          rw [if_pos hd] at h
          exact h.symm
        clear HE
        have hq : decide ((out.length : Int) < (d : Int)) = true := decide_eq_true (by omega)
        go_wp2_with fail
        go_ret2
        exact ⟨by rw [HR4.out]; rfl, hbel.alloc hbs _⟩
      have hd' : d ≤ out.length := by omega
      have hq : decide ((out.length : Int) < (d : Int)) = false := decide_eq_false (by omega)
      go_wp2_with fail
      refine (hby _).mono ?_
      rintro e w2 ⟨rfl, hb2⟩
      have x0 := (hb2.cell (p := ⟨wr.heap.size, 0, none⟩) (by simp)).trans (show _ = some (.int .u8 (b.toNat : Int)) from by simp)
      have x1 := (hb2.cell (p := ⟨wr.heap.size, 1, none⟩) (by simp)).trans (show _ = some (.int .i64 (n : Int)) from by simp)
      have x2 := (hb2.cell (p := ⟨wr.heap.size, 2, none⟩) (by simp)).trans (show _ = some (.int .i64 (d : Int)) from by simp)
      have hB2 : Below w.heap.size w w2 := (hbel.alloc hbs _).trans (hb2.mono (by simp; omega))
      have hown2 := own_below (hown.alloc _) hb2
      have hs2 := hB2.size
      clear hby hb2 hown hbel c0 c1 c2
      by_cases hz : M < out.length + z
      · have HR2 : Hid (R = ([], 2)) := by
          have h := HE.out
          rw [if_neg hd, if_pos hz] at h
          exact h.symm
        have hq2 : decide ((M : Int) < (out.length : Int) + (z : Int)) = true := decide_eq_true (by omega)
        clear HE
        go_wp2_with fail
        go_ret2
        exact ⟨by rw [HR2.out]; rfl, hB2⟩
      have HE2 : Hid (Lz.ex M ((Lz.Tk.mk b n d).make out) ((l.drop (k + 1)).map Lz.Tr.tok) = R) := by
        have h := HE.out
        rw [if_neg hd, if_neg hz] at h
        exact h
      have hq2 : decide ((M : Int) < (out.length : Int) + (z : Int)) = false := decide_eq_false (by omega)
      have hap := happ w2 _ out hd' hs2 (by omega) hown2
      generalize (Lz.Tk.mk b n d).make out = mk at *
      clear HE happ hown2
      go_wp2_with fail
      refine hap.mono ?_
      rintro e w3 ⟨v3, rfl, hown3, hb3⟩
      have HO3 : Hid (w3.ownsRow w.heap.size 5 1 v3 mk.length (mk.map B)) := hown3
      have HB3 : Hid (Below w.heap.size w w3) := hB2.trans hb3
      clear hap hown3 hb3 hB2 x0 x1 x2
      go_wp2_with fail
      go_roundw
      case rel => exact ⟨k + 1, mk, by omega, by omega, by go_num, HE2, HO3.out, HB3.out⟩
      case measure => simp only [intOf]; omega
    · have HRE : Hid (R = (out, 0)) := by
        have := hex.out
        rw [List.drop_eq_nil_of_le (by omega)] at this
        exact this.symm
      have hstr := run_str hown
      clear hown hex
      go_wp2_with fail
      go_ret2
      exact ⟨by rw [HRE.out]; rfl, hbel⟩
theorem expand_any (v : Value) (l : List Lz.Tr) (most : Int) (w : World) (h : Toks w v l) (hl : l.length ≤ 140737488351232) :
    Calls Try.prog 42 #[v, .int .i64 most] w fun e w' => e = .returned (.tuple #[.string ⟨(Lz.expd l most).1.toArray⟩, .int .i64 (Lz.expd l most).2]) ∧ Below w.heap.size w w' := by
  unfold Lz.expd
  by_cases hm : most < 0 ∨ 4096 < most
  · rw [if_pos hm]
    refine (expand_arg v most w hm).mono ?_
    rintro e w' ⟨rfl, rfl⟩
    exact ⟨rfl, Below.refl _ _⟩
  · rw [if_neg hm]
    obtain ⟨M, rfl⟩ := Int.eq_ofNat_of_zero_le (show 0 ≤ most by omega)
    by_cases hc : Lz.chk l = 0
    · rw [if_pos hc]
      exact expand_in v l M _ w h (by omega) hc rfl
    · rw [if_neg hc]
      exact expand_chk v l M w h hl (by omega) hc
end Go.Proofs.Ytgdkfaphbbdnbaa
