/-
  What Pack of package lz answers.
-/
import Derived.Test.YtgdkfaphbbdnbaaLzExp
namespace Go.Proofs.Ytgdkfaphbbdnbaa
open Go.RowKit
set_option maxRecDepth 4000

namespace Lz
/-- P18's Pack -/
def packd (l : List Tr) : Bs := if chk l = 0 then pack (l.map Tr.tok) else []
theorem pack_snoc (l : List Tk) (t : Tk) : pack (l ++ [t]) = pack l ++ t.text := by simp [pack]
theorem text_length (t : Tk) : t.text.length ≤ 3 := by
  unfold Tk.text
  split <;> simp
theorem pack_length (l : List Tk) : (pack l).length ≤ 3 * l.length := by
  induction l with
  | nil => simp [pack]
  | cons t l ih =>
    have := text_length t
    show (t.text ++ pack l).length ≤ _
    rw [List.length_append, List.length_cons]
    omega
end Lz

set_option maxHeartbeats 400000 in
theorem pack_chk (v : Value) (l : List Lz.Tr) (w : World) (h : Toks w v l) (hl : l.length ≤ 140737488351232) (hc : Lz.chk l ≠ 0) :
    Calls Try.prog 25 #[v] w fun e w' => e = .returned (.tuple #[.string ⟨#[]⟩, .int .i64 (Lz.chk l)]) ∧ Below w.heap.size w w' := by
  have hk := check_any v l w h hl
  generalize Lz.chk l = c at *
  have hq : ((c : Int) != 0) = true := by rw [bne_iff_ne]; omega
  go_enter Try.func25, Try.ntmps25
  go_wp2_with fail
  refine hk.mono ?_
  rintro e w1 ⟨rfl, hb1⟩
  go_wp2_with fail
  go_ret2
  exact ⟨rfl, hb1⟩

set_option maxHeartbeats 2000000 in
theorem pack_in (v : Value) (l : List Lz.Tr) (F : Nat → List UInt8) (w : World) (h : Toks w v l) (hc : Lz.chk l = 0) (hF0 : F 0 = [])
    (hF : ∀ k (h : k < l.length), F (k + 1) = F k ++ l[k].tok.text) (hFl : ∀ k, k ≤ l.length → (F k).length ≤ 3 * k) :
    Calls Try.prog 25 #[v] w fun e w' => e = .returned (.tuple #[.string ⟨(F l.length).toArray⟩, .int .i64 0]) ∧ Below w.heap.size w w' := by
  obtain ⟨hl, hf⟩ := Lz.chk_zero hc
  have hk := check_any v l w h (by omega)
  rw [hc] at hk
  have HF : Hid (∀ t ∈ l, t.form) := hf
  have HF0 : Hid (F 0 = []) := hF0
  have HFS : Hid (∀ k (h : k < l.length), F (k + 1) = F k ++ l[k].tok.text) := hF
  have HFL : Hid (∀ k, k ≤ l.length → (F k).length ≤ 3 * k) := hFl
  have HT : Hid (Toks w v l) := h
  obtain ⟨a, c, rfl⟩ := h.slice
  obtain ⟨i0, hi, hz0, hz1, hz2⟩ := info_parts info_u8
  clear hf hc h hF0 hF hFl
  go_enter Try.func25, Try.ntmps25
  go_wp2_with fail
  refine hk.mono ?_
  rintro e w1 ⟨rfl, hb1⟩
  clear hk
  go_wp2_with fail
  go_loopw [5, 15] (fun v i wr => ∃ (k : Nat), k ≤ l.length ∧ i = .int .i64 k ∧ wr.ownsRow w.heap.size 5 1 v (F k).length ((F k).map B) ∧ Below w.heap.size w wr) (fun _ i _ => l.length - (intOf i).toNat)
  case atStart => exact ⟨0, by omega, rfl, by rw [HF0.out]; exact World.ownsRow_nil _ _ _ _, hb1⟩
  case round =>
    obtain ⟨k, hkl, rfl, hown, hbel⟩ := hrel
    have hFk := HFL.out k hkl
    by_cases hlt : k < l.length
    · obtain ⟨bk, o, rfl, _, hbk, c0, c1, c2⟩ := (HT.out.below (Nat.le_refl _) hbel).get k hlt
      obtain ⟨hraw, hgood⟩ := Lz.Tr.tok_raw (HF.out l[k] (List.getElem_mem hlt))
      have HE : Hid (F (k + 1) = F k ++ l[k].tok.text) := HFS.out k hlt
      generalize l[k] = t at *
      generalize t.tok = u at *
      subst hraw
      have hle := letter_any u.raw
      rw [letter_good hgood] at hle
      obtain ⟨b, n, d⟩ := u
      unfold tokV at hle
      dsimp only [Lz.Tk.raw] at c0 c1 c2 hle
      unfold Lz.Tk.text at HE
      dsimp only at HE
      generalize hFe : F k = out at *
      have hbs := hbel.size
      by_cases hn0 : n = 0
      · subst hn0
        rw [if_pos rfl] at HE
        rw [decide_eq_true rfl] at hle
        go_wp2_with fail
        refine (hle _).mono ?_
        rintro e w2 ⟨rfl, hb2⟩
        have x0 := (hb2.cell (p := ⟨wr.heap.size, 0, none⟩) (by simp)).trans (show _ = some (.int .u8 (b.toNat : Int)) from by simp)
        have hB2 : Below w.heap.size w w2 := (hbel.alloc hbs _).trans (hb2.mono (by simp; omega))
        have hown2 := own_below (hown.alloc _) hb2
        have hs2 := hB2.size
        clear hle hb2 hown hbel c0 c1 c2
        go_wp2_with (at_builtin; refine wpList_append_own _ rfl (.tmp 21) (.tmp 24) 26 rfl w.heap.size 5 i0 (.int .u8 0) 1 1 Try.underlying26 hi hz0 hz1 hz2 rfl (by decide) _ _ _ rfl (hown2.alloc _) ⟨w2.heap.size, 0, none⟩ 2 2 [.int .u8 0, .int .u8 (b.toNat : Int)] rfl rfl ?c1 ?c2 ?c3 ?c4 ?c5 ?_)
        case c1 =>
          intro j u hj
          match j, hj with
          | 0, hj => simp at hj; subst hj; simp [Addr.add]
          | 1, hj => simp at hj; subst hj; simp [Addr.add]
        case c2 => intro u hu; simp at hu; rcases hu with rfl | rfl <;> rfl
        case c3 => unfold maxLen; omega
        case c4 => omega
        case c5 => simp; omega
        intro v1 w3 hown3 hgrow _
        have HO : Hid (w3.ownsRow w.heap.size 5 1 v1 (F (k + 1)).length ((F (k + 1)).map B)) := by rw [HE.out]; show World.ownsRow _ _ _ _ _ _ _; simpa [B] using hown3
        have HB3 : Hid (Below w.heap.size w w3) := (hB2.alloc hs2 _).grown hgrow (by simp; omega) fun j hj => (hown2.lt j hj).1
        clear hown3 hgrow hown2 hB2 x0
        go_wp2_with fail
        go_roundw
        case rel => exact ⟨k + 1, by omega, by go_num, HO.out, HB3.out⟩
        case measure => simp only [intOf]; omega
      · have hg : n ≤ 255 ∧ d ≤ 1024 := by rcases hgood with ⟨h1, _⟩ | ⟨_, _, h1, _, h2⟩ <;> dsimp only at * <;> omega
        rw [if_neg hn0] at HE
        rw [decide_eq_false hn0] at hle
        have hg1 := hg.1
        have hg2 := hg.2
        clear hg
        go_wp2_with fail
        refine (hle _).mono ?_
        rintro e w2 ⟨rfl, hb2⟩
        have x0 := (hb2.cell (p := ⟨wr.heap.size, 0, none⟩) (by simp)).trans (show _ = some (.int .u8 (b.toNat : Int)) from by simp)
        have x1 := (hb2.cell (p := ⟨wr.heap.size, 1, none⟩) (by simp)).trans (show _ = some (.int .i64 (n : Int)) from by simp)
        have x2 := (hb2.cell (p := ⟨wr.heap.size, 2, none⟩) (by simp)).trans (show _ = some (.int .i64 (d : Int)) from by simp)
        have hB2 : Below w.heap.size w w2 := (hbel.alloc hbs _).trans (hb2.mono (by simp; omega))
        have hown2 := own_below (hown.alloc _) hb2
        have hs2 := hB2.size
        clear hle hb2 hown hbel c0 c1 c2
        go_wp2_with (at_builtin; refine wpList_append_own _ rfl (.tmp 26) (.tmp 37) 26 rfl w.heap.size 5 i0 (.int .u8 0) 1 1 Try.underlying26 hi hz0 hz1 hz2 rfl (by decide) _ _ _ rfl (hown2.alloc _) ⟨w2.heap.size, 0, none⟩ 3 3 [.int .u8 (n : Int), .int .u8 ((d : Int) % 256), .int .u8 ((d : Int) / 256)] rfl rfl ?d1 ?d2 ?d3 ?d4 ?d5 ?_)
        case d1 =>
          intro j u hj
          match j, hj with
          | 0, hj => simp at hj; subst hj; simp [Addr.add]
          | 1, hj => simp at hj; subst hj; simp [Addr.add]
          | 2, hj => simp at hj; subst hj; simp [Addr.add]
        case d2 => intro u hu; simp at hu; rcases hu with rfl | rfl | rfl <;> rfl
        case d3 => unfold maxLen; omega
        case d4 => omega
        case d5 => simp; omega
        intro v1 w3 hown3 hgrow _
        have HO : Hid (w3.ownsRow w.heap.size 5 1 v1 (F (k + 1)).length ((F (k + 1)).map B)) := by
          rw [HE.out, List.map_append]
          have e3 : [UInt8.ofNat n, UInt8.ofNat (d % 256), UInt8.ofNat (d / 256)].map B = [.int .u8 (n : Int), .int .u8 ((d : Int) % 256), .int .u8 ((d : Int) / 256)] := by
            have k1 : ((UInt8.ofNat n).toNat : Int) = n := by simp; omega
            have k2 : ((UInt8.ofNat (d % 256)).toNat : Int) = (d : Int) % 256 := by simp
            have k3 : ((UInt8.ofNat (d / 256)).toNat : Int) = (d : Int) / 256 := by simp; omega
            simp only [List.map_cons, List.map_nil, B, k1, k2, k3]
          rw [e3]
          show World.ownsRow _ _ _ _ _ _ _
          simpa using hown3
        have HB3 : Hid (Below w.heap.size w w3) := (hB2.alloc hs2 _).grown hgrow (by simp; omega) fun j hj => (hown2.lt j hj).1
        clear hown3 hgrow hown2 hB2 x0 x1 x2
        go_wp2_with fail
        go_roundw
        case rel => exact ⟨k + 1, by omega, by go_num, HO.out, HB3.out⟩
        case measure => simp only [intOf]; omega
    · obtain rfl : k = l.length := by omega
      have hstr := run_str hown
      clear hown
      go_wp2_with fail
      go_ret2
      exact ⟨rfl, hbel⟩
theorem pack_any (v : Value) (l : List Lz.Tr) (w : World) (h : Toks w v l) (hl : l.length ≤ 140737488351232) :
    Calls Try.prog 25 #[v] w fun e w' => e = .returned (.tuple #[.string ⟨(Lz.packd l).toArray⟩, .int .i64 (Lz.chk l)]) ∧ Below w.heap.size w w' := by
  unfold Lz.packd
  by_cases hc : Lz.chk l = 0
  · rw [if_pos hc, hc]
    have := pack_in v l (fun k => Lz.pack ((l.take k).map Lz.Tr.tok)) w h hc rfl (fun k hk => ?_) (fun k hk => ?_)
    · rw [List.take_length] at this
      exact this
    · show Lz.pack _ = Lz.pack _ ++ _
      rw [List.take_succ_eq_append_getElem hk, List.map_append, ← Lz.pack_snoc]
      rfl
    · refine Nat.le_trans (Lz.pack_length _) ?_
      rw [List.length_map, List.length_take]
      omega
  · rw [if_neg hc]
    exact pack_chk v l w h hl hc
end Go.Proofs.Ytgdkfaphbbdnbaa
