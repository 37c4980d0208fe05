/-
  What tokenText and TokensText of package lumref answer.
-/
import Derived.Test.YtkkbdgpmgkipbaaLzPack
namespace Go.Proofs.Ytkkbdgpmgkipbaa
open Go.RowKit

theorem own_cells (w : World) (l : List UInt8) (hl : l.length ≤ 1000) : (w.alloc (.cells (l.map B).toArray 5)).ownsRow w.heap.size 5 1 (.slice (some ⟨w.heap.size, 0, none⟩) l.length l.length) l.length (l.map B) :=
  ⟨by simp, .inr ⟨w.heap.size, l.length, (l.map B).toArray, rfl, Nat.le_refl _, heap_alloc_new w _, Nat.le_refl _, by unfold maxLen; omega, by simp, by simp [List.take_of_length_le]⟩⟩
theorem str_one (w : World) (b : UInt8) : (convert 40 9 (.slice (some ⟨w.heap.size, 0, none⟩) 1 1)).run Try.prog (w.alloc (.cells #[.int .u8 b.toNat] 5)) = .ok (.string ⟨#[b]⟩) (w.alloc (.cells #[.int .u8 b.toNat] 5)) :=
  run_str (own_cells w [b] (by simp))
theorem str_two (w : World) (a b : UInt8) : (convert 40 9 (.slice (some ⟨w.heap.size, 0, none⟩) 2 2)).run Try.prog (w.alloc (.cells #[.int .u8 a.toNat, .int .u8 b.toNat] 5)) = .ok (.string ⟨#[a, b]⟩) (w.alloc (.cells #[.int .u8 a.toNat, .int .u8 b.toNat] 5)) :=
  run_str (own_cells w [a, b] (by simp))
theorem str_three (w : World) (a b c : UInt8) : (convert 40 9 (.slice (some ⟨w.heap.size, 0, none⟩) 3 3)).run Try.prog (w.alloc (.cells #[.int .u8 a.toNat, .int .u8 b.toNat, .int .u8 c.toNat] 5)) = .ok (.string ⟨#[a, b, c]⟩) (w.alloc (.cells #[.int .u8 a.toNat, .int .u8 b.toNat, .int .u8 c.toNat] 5)) :=
  run_str (own_cells w [a, b, c] (by simp))

set_option maxHeartbeats 1000000 in
theorem text_any (t : Lz.Tk) (w : World) (hg : Lz.Good t) :
    Calls Try.prog 24 #[tokV t.raw] w fun e w' => e = .returned (.string ⟨t.text.toArray⟩) ∧ Below w.heap.size w w' := by
  obtain ⟨b, n, d⟩ := t
  unfold tokV
  dsimp only [Lz.Tk.raw]
  by_cases hn : n = 0
  · subst hn
    have hs := str_two (w.alloc (.cells #[.int .u8 b.toNat, .int .i64 0, .int .i64 d] 33)) 0 b
    rw [show ((0 : UInt8).toNat : Int) = 0 from rfl, World.size_alloc] at hs
    go_enter Try.func24, Try.ntmps24
    go_wp2_with fail
    go_ret
    exact ⟨rfl, ((Below.refl _ w).alloc (Nat.le_refl _) _).alloc (by simp) _⟩
  · have hg : n ≤ 255 ∧ 1 ≤ d ∧ d ≤ 1024 := by rcases hg with ⟨h1, _⟩ | ⟨_, _, h1, h2, h3⟩ <;> dsimp only at * <;> omega
    obtain ⟨g1, g2, g3⟩ := hg
    have hs := str_three (w.alloc (.cells #[.int .u8 b.toNat, .int .i64 n, .int .i64 d] 33)) (UInt8.ofNat n) (UInt8.ofNat (d % 256)) (UInt8.ofNat (d / 256))
    rw [show ((UInt8.ofNat n).toNat : Int) = n from by simp; omega, show ((UInt8.ofNat (d % 256)).toNat : Int) = (d : Int) % 256 from by simp, show ((UInt8.ofNat (d / 256)).toNat : Int) = (d : Int) / 256 from by simp; omega, World.size_alloc] at hs
    have hq : ((n : Int) == 0) = false := by rw [beq_eq_false_iff_ne]; omega
    have HT : Hid ((Lz.Tk.mk b n d).text = [UInt8.ofNat n, UInt8.ofNat (d % 256), UInt8.ofNat (d / 256)]) := if_neg hn
    have r1 : Int.tmod (d : Int) 256 = (d : Int) % 256 := Int.tmod_eq_emod_of_nonneg (by omega)
    have r2 : Int.tdiv (d : Int) 256 = (d : Int) / 256 := Int.tdiv_eq_ediv_of_nonneg (by omega)
    generalize (Lz.Tk.mk b n d).text = T at *
    clear hn
    go_enter Try.func24, Try.ntmps24
    go_wp2_with fail
    go_ret
    exact ⟨by rw [HT.out]; rfl, ((Below.refl _ w).alloc (Nat.le_refl _) _).alloc (by simp) _⟩
set_option maxHeartbeats 1000000 in
theorem texts_in (v : Value) (l : List Lz.Tr) (F : Nat → List UInt8) (w : World) (h : Toks w v l) (hc : Lz.chk l = 0) (hF0 : F 0 = [])
    (hF : ∀ k (h : k < l.length), F (k + 1) = F k ++ l[k].tok.text) (hFl : ∀ k, k ≤ l.length → (F k).length ≤ 3 * k) :
    Calls Try.prog 12 #[v] w fun e w' => e = .returned (.string ⟨(F l.length).toArray⟩) ∧ Below w.heap.size w w' := by
  obtain ⟨hl, hf⟩ := Lz.chk_zero hc
  have HF : Hid (∀ t ∈ l, t.form) := hf
  have HF0 : Hid (F 0 = []) := hF0
  have HFS : Hid (∀ k (h : k < l.length), F (k + 1) = F k ++ l[k].tok.text) := hF
  have HFL : Hid (∀ k, k ≤ l.length → (F k).length ≤ 3 * k) := hFl
  have HT : Hid (Toks w v l) := h
  obtain ⟨a, c, rfl⟩ := h.slice
  clear hf hc h hF0 hF hFl
  go_enter Try.func12, Try.ntmps12
  go_wp2_with fail
  go_loopw [3, 8] (fun v i wr => ∃ (k : Nat), k ≤ l.length ∧ i = .int .i64 k ∧ v = .string ⟨(F k).toArray⟩ ∧ Below w.heap.size w wr) (fun _ i _ => l.length - (intOf i).toNat)
  case atStart => exact ⟨0, by omega, rfl, by rw [HF0.out], Below.refl _ _⟩
  case round =>
    obtain ⟨k, hkl, rfl, rfl, hbel⟩ := hrel
    have hFk := HFL.out k hkl
    by_cases hlt : k < l.length
    · obtain ⟨bk, o, rfl, _, hbk, c0, c1, c2⟩ := (HT.out.below (Nat.le_refl _) hbel).get k hlt
      obtain ⟨hraw, hgood⟩ := Lz.Tr.tok_raw (HF.out l[k] (List.getElem_mem hlt))
      have HE : Hid (F (k + 1) = F k ++ l[k].tok.text) := HFS.out k hlt
      generalize l[k] = t at *
      generalize t.tok = u at *
      subst hraw
      have hte := fun V => text_any u V hgood
      have htl := Lz.text_length u
      generalize u.text = tx at *
      obtain ⟨b, n, d⟩ := u
      unfold tokV at hte
      dsimp only [Lz.Tk.raw] at c0 c1 c2 hte
      generalize hFe : F k = out at *
      have hbs := hbel.size
      have hcat : ∀ W : World, (Op.stringOp .add ⟨out.toArray⟩ ⟨tx.toArray⟩).run Try.prog W = .ok (.string ⟨(out ++ tx).toArray⟩) W := fun W => run_string_add_lists W _ _ (by omega) (by omega)
      clear hFe
      go_wp2_with fail
      refine (hte _).mono ?_
      rintro e w2 ⟨rfl, hb2⟩
      have HB2 : Hid (Below w.heap.size w w2) := (hbel.alloc hbs _).trans (hb2.mono (by simp; omega))
      clear hte hb2 hbel c0 c1 c2
      go_wp2_with fail
      go_roundw
      case rel => exact ⟨k + 1, by omega, by go_num, by rw [HE.out], HB2.out⟩
      case measure => simp only [intOf]; omega
    · obtain rfl : k = l.length := by omega
      go_wp2_with fail
      go_ret
      exact ⟨rfl, hbel⟩
theorem texts_any (v : Value) (l : List Lz.Tr) (w : World) (h : Toks w v l) (hc : Lz.chk l = 0) :
    Calls Try.prog 12 #[v] w fun e w' => e = .returned (.string ⟨(Lz.packd l).toArray⟩) ∧ Below w.heap.size w w' := by
  unfold Lz.packd
  rw [if_pos hc]
  have := texts_in v l (fun k => Lz.pack ((l.take k).map Lz.Tr.tok)) w h hc rfl (fun k hk => ?_) (fun k hk => ?_)
  · rw [List.take_length] at this
    exact this
  · show Lz.pack _ = Lz.pack _ ++ _
    rw [List.take_succ_eq_append_getElem hk, List.map_append, ← Lz.pack_snoc]
    rfl
  · refine Nat.le_trans (Lz.pack_length _) ?_
    rw [List.length_map, List.length_take]
    omega
end Go.Proofs.Ytkkbdgpmgkipbaa
