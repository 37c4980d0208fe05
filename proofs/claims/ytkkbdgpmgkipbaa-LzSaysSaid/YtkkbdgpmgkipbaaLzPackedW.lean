/-
  The walk of lumkeep.LzPacked: it returns true.
-/
import Derived.Test.YtkkbdgpmgkipbaaLzRead
import Derived.Test.YtkkbdgpmgkipbaaLzPack
namespace Go.Proofs.Ytkkbdgpmgkipbaa
open Go.RowKit

set_option maxHeartbeats 2000000 in
theorem lzPacked_of (v : Value) (l M N : List Lz.Tr) (k1 f g hh : Nat) (T U s : ByteArray) (w : World) (ht : Toks w v l) (hl : l.length ≤ 140737488351232)
    (e1 : ∀ V, Toks V v l → Calls Try.prog 11 #[v] V fun e w' => e = .returned (.tuple #[.string T, .int .i64 k1]) ∧ Below V.heap.size V w')
    (e2 : ∀ V, Calls Try.prog 13 #[.string T] V fun e w' => ∃ v, e = .returned (.tuple #[v, .int .i64 f]) ∧ w'.ownsRow V.heap.size 33 3 v M.length (rowC M) ∧ Below V.heap.size V w')
    (e4 : ∀ V, Calls Try.prog 13 #[.string s] V fun e w' => ∃ v, e = .returned (.tuple #[v, .int .i64 g]) ∧ w'.ownsRow V.heap.size 33 3 v N.length (rowC N) ∧ Below V.heap.size V w')
    (e5 : ∀ V v, Toks V v N → Calls Try.prog 11 #[v] V fun e w' => e = .returned (.tuple #[.string U, .int .i64 hh]) ∧ Below V.heap.size V w')
    (hA : (k1 = 0 ∧ f = 0 ∧ M = l) ∨ k1 ≠ 0) (hB : (g = 0 ∧ hh = 0 ∧ U = s) ∨ (g ≠ 0 ∧ N.length = 0 ∧ 0 < s.size)) :
    Calls Try.prog 7 #[v, .string s] w fun e w' => e = .returned (.bool true) ∧ Below w.heap.size w w' := by
  have HA : Hid ((k1 = 0 ∧ f = 0 ∧ M = l) ∨ k1 ≠ 0) := hA
  have HB : Hid ((g = 0 ∧ hh = 0 ∧ U = s) ∨ (g ≠ 0 ∧ N.length = 0 ∧ 0 < s.size)) := hB
  clear hA hB
  go_enter Try.func7, Try.ntmps7
  go_wp2_with fail
  refine (e1 _ ht).mono ?_
  rintro e w1 ⟨rfl, hb1⟩
  have t1 := ht.below (Nat.le_refl _) hb1
  clear e1 ht
  go_wp2_with fail
  refine (e2 _).mono ?_
  rintro e w2 ⟨v2, rfl, o2, hb2⟩
  have t2 := t1.below (Nat.le_refl _) hb2
  have hB2 := hb1.trans (hb2.mono hb1.size)
  have m2 := Toks.of_own o2
  clear e2 t1 hb1 hb2 o2
  go_upto_region 3 with fail
  go_cut [34] from 13 (fun x wx => x = .bool false ∧ Below w2.heap.size w2 wx)
  case first =>
    rcases HA.out with ⟨rfl, rfl, rfl⟩ | hk
    · have heq := equal_toks v v2 M w2 t2 m2 hl
      go_wp2_with fail
      refine heq.mono ?_
      rintro e w3 ⟨rfl, hb3⟩
      go_wp2_with fail
      go_meet
      exact ⟨rfl, hb3⟩
    · have hq : ((k1 : Int) == 0) = false := by rw [beq_eq_false_iff_ne]; omega
      go_wp2_with fail
      go_meet
      exact ⟨rfl, Below.refl _ _⟩
  case rest =>
    obtain ⟨rfl, hb3⟩ := hcut
    have hB3 := hB2.trans (hb3.mono hB2.size)
    clear hB2 hb3 t2 m2 HA
    go_wp2_with fail
    refine (e4 _).mono ?_
    rintro e w4 ⟨v4, rfl, o4, hb4⟩
    have hB4 := hB3.trans (hb4.mono hB3.size)
    have t4 := Toks.of_own o4
    obtain ⟨a4, c4, rfl⟩ := own_slice o4
    clear e4 hb4 hB3 o4
    go_wp2_with fail
    refine (e5 _ _ t4).mono ?_
    rintro e w5 ⟨rfl, hb5⟩
    have hB5 := hB4.trans (hb5.mono hB4.size)
    clear e5 hb5 hB4 t4
    rcases HB.out with ⟨rfl, rfl, rfl⟩ | ⟨hg, hn, hs⟩
    · go_wp2_with fail
      go_ret
      exact ⟨rfl, hB5⟩
    · have hq : ((g : Int) != 0) = true := by rw [bne_iff_ne]; omega
      have hq2 : ((N.length : Int) == 0) = true := by rw [hn]; rfl
      have hq3 : decide ((0 : Int) < (s.size : Int)) = true := decide_eq_true (by omega)
      clear hn
      go_wp2_with fail
      go_ret
      exact ⟨rfl, hB5⟩

namespace Lz
theorem tok_raws {l : List Tr} (h : ∀ t ∈ l, t.form) : (l.map Tr.tok).map Tk.raw = l := by
  rw [List.map_map]
  conv => rhs; rw [← List.map_id l]
  exact List.map_congr_left fun t ht => (Tr.tok_raw (h t ht)).1
theorem read_packd {l : List Tr} (h : chk l = 0) : (rd (packd l)).2 = 0 ∧ rdR (packd l) = l := by
  obtain ⟨hl, hf⟩ := chk_zero h
  have hp : packd l = pack (l.map Tr.tok) := if_pos h
  have hr : rd (packd l) = (l.map Tr.tok, 0) := by
    rw [hp]
    exact read_pack (l.map Tr.tok) [] (fun t ht => by
      obtain ⟨u, hu, rfl⟩ := List.mem_map.1 ht
      exact (Tr.tok_raw (hf u hu)).2) (by rw [List.length_map]; simp; omega)
  refine ⟨by rw [hr], ?_⟩
  unfold rdR
  rw [hr]
  exact tok_raws hf
theorem rdA_error (k : Nat) (out : List Tk) (X : Bs) (hk : X.length ≤ k) (h : (rdA out X).2 ≠ 0) : (rdA out X).1 = [] ∧ X ≠ [] := by
  induction k generalizing out X with
  | zero =>
    obtain rfl : X = [] := List.length_eq_zero_iff.1 (by omega)
    exact absurd rfl h
  | succ k ih =>
    by_cases hX : X = []
    · subst hX; exact absurd rfl h
    · obtain ⟨h1, h2⟩ := rdA_rt out X hX
      refine ⟨?_, hX⟩
      rw [h1] at h ⊢
      by_cases e : (rt X).2.2 = 0
      · rw [if_pos e] at h ⊢
        obtain ⟨_, h3, h4⟩ := h2 e
        by_cases e2 : out.length = 4096
        · rw [if_pos e2]
        · rw [if_neg e2] at h ⊢
          exact (ih _ _ (by rw [List.length_drop]; omega) h).1
      · rw [if_neg e]
theorem packd_read {X : Bs} (h : (rd X).2 = 0) : chk (rdR X) = 0 ∧ packd (rdR X) = X := by
  obtain ⟨m, h1, h2, h3, h4⟩ := pack_read X.length X (Nat.le_refl _) [] (rd X).1 (by rw [← h]; rfl) (by simp)
  rw [List.nil_append] at h1
  have hc : chk (rdR X) = 0 := by
    unfold chk rdR
    rw [if_neg (by rw [List.length_map]; omega), if_pos]
    intro t ht
    obtain ⟨u, hu, rfl⟩ := List.mem_map.1 ht
    exact (h3 u (by rw [← h1]; exact hu)).form
  refine ⟨hc, ?_⟩
  unfold packd
  rw [if_pos hc]
  unfold rdR
  rw [List.map_map, h1, ← h2]
  congr 1
  conv => rhs; rw [← List.map_id m]
  exact List.map_congr_left fun t _ => raw_tok t
end Lz

theorem lzPacked_walk (v : Value) (l : List Lz.Tr) (s : ByteArray) (z0 : l.length ≤ 140737488351232) (z1 : s.size ≤ 140737488351232) (w : World) (t0 : Toks w v l) :
    Calls Try.prog 7 #[v, .string s] w fun e w' => e = .returned (.bool true) ∧ Below w.heap.size w w' := by
  have hT : (⟨(Lz.packd l).toArray⟩ : ByteArray).size ≤ 140737488351232 := by
    show (Lz.packd l).toArray.size ≤ _
    rw [List.size_toArray]
    unfold Lz.packd
    split
    · rename_i hc
      have h1 := Lz.pack_length (l.map Lz.Tr.tok)
      have h2 := (Lz.chk_zero hc).1
      rw [List.length_map] at h1
      omega
    · simp
  have hN : (Lz.rdR s.data.toList).length ≤ 140737488351232 := by
    by_cases h : (Lz.rd s.data.toList).2 = 0
    · have := (Lz.chk_zero (Lz.packd_read h).1).1
      omega
    · unfold Lz.rdR
      rw [List.length_map, show (Lz.rd s.data.toList).1 = [] from (Lz.rdA_error _ [] _ (Nat.le_refl _) h).1]
      simp
  refine lzPacked_of v l (Lz.rdR (Lz.packd l)) (Lz.rdR s.data.toList) (Lz.chk l) (Lz.rd (Lz.packd l)).2 (Lz.rd s.data.toList).2 (Lz.chk (Lz.rdR s.data.toList)) ⟨(Lz.packd l).toArray⟩ ⟨(Lz.packd (Lz.rdR s.data.toList)).toArray⟩ s w t0 z0
    (fun V h => pack_any v l V h z0) (fun V => read_any ⟨(Lz.packd l).toArray⟩ V hT) (fun V => read_any s V z1) (fun V v h => pack_any v _ V h hN) ?_ ?_
  · by_cases h : Lz.chk l = 0
    · exact .inl ⟨h, (Lz.read_packd h).1, (Lz.read_packd h).2⟩
    · exact .inr h
  · by_cases h : (Lz.rd s.data.toList).2 = 0
    · refine .inl ⟨h, (Lz.packd_read h).1, ?_⟩
      rw [(Lz.packd_read h).2]
    · have he := Lz.rdA_error _ [] _ (Nat.le_refl _) h
      refine .inr ⟨h, ?_, ?_⟩
      · unfold Lz.rdR
        rw [List.length_map, show (Lz.rd s.data.toList).1 = [] from he.1]
        rfl
      · rw [Lib.size_eq]
        exact List.length_pos_iff.2 he.2
end Go.Proofs.Ytkkbdgpmgkipbaa
