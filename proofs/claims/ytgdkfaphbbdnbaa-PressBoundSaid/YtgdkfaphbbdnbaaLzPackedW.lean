/-
  The walk of lumkeep.LzPacked: it returns true.
-/
import Derived.Test.YtgdkfaphbbdnbaaLzRead
import Derived.Test.YtgdkfaphbbdnbaaLzPack
namespace Go.Proofs.Ytgdkfaphbbdnbaa
open Go.RowKit

namespace Lz
theorem tok_raws {l : List Tr} (h : ∀ t ∈ l, t.form) : (l.map Tr.tok).map Tk.raw = l := by
  rw [List.map_map]
  conv => rhs; rw [← List.map_id l]
  exact List.map_congr_left fun t ht => (Tr.tok_raw (h t ht)).1
theorem read_packd {l : List Tr} (h : chk l = 0) : (rd (packd l)).2 = 0 ∧ rdR (packd l) = l := by
  obtain ⟨hl, hf⟩ := chk_zero h
  have hp : packd l = pack (l.map Tr.tok) := if_pos h
  have hr : rd (packd l) = (l.map Tr.tok, 0) := by
    rw [hp]
    exact read_pack (l.map Tr.tok) [] (fun t ht => by
      obtain ⟨u, hu, rfl⟩ := List.mem_map.1 ht
      exact (Tr.tok_raw (hf u hu)).2) (by rw [List.length_map]; simp; omega)
  refine ⟨by rw [hr], ?_⟩
  unfold rdR
  rw [hr]
  exact tok_raws hf
theorem rdA_error (k : Nat) (out : List Tk) (X : Bs) (hk : X.length ≤ k) (h : (rdA out X).2 ≠ 0) : (rdA out X).1 = [] ∧ X ≠ [] := by
  induction k generalizing out X with
  | zero =>
    obtain rfl : X = [] := List.length_eq_zero_iff.1 (by omega)
    exact absurd rfl h
  | succ k ih =>
    by_cases hX : X = []
    · subst hX; exact absurd rfl h
    · obtain ⟨h1, h2⟩ := rdA_rt out X hX
      refine ⟨?_, hX⟩
      rw [h1] at h ⊢
      by_cases e : (rt X).2.2 = 0
      · rw [if_pos e] at h ⊢
        obtain ⟨_, h3, h4⟩ := h2 e
        by_cases e2 : out.length = 4096
        · rw [if_pos e2]
        · rw [if_neg e2] at h ⊢
          exact (ih _ _ (by rw [List.length_drop]; omega) h).1
      · rw [if_neg e]
theorem packd_read {X : Bs} (h : (rd X).2 = 0) : chk (rdR X) = 0 ∧ packd (rdR X) = X := by
  obtain ⟨m, h1, h2, h3, h4⟩ := pack_read X.length X (Nat.le_refl _) [] (rd X).1 (by rw [← h]; rfl) (by simp)
  rw [List.nil_append] at h1
  have hc : chk (rdR X) = 0 := by
    unfold chk rdR
    rw [if_neg (by rw [List.length_map]; omega), if_pos]
    intro t ht
    obtain ⟨u, hu, rfl⟩ := List.mem_map.1 ht
    exact (h3 u (by rw [← h1]; exact hu)).form
  refine ⟨hc, ?_⟩
  unfold packd
  rw [if_pos hc]
  unfold rdR
  rw [List.map_map, h1, ← h2]
  congr 1
  conv => rhs; rw [← List.map_id m]
  exact List.map_congr_left fun t _ => raw_tok t
end Lz
end Go.Proofs.Ytgdkfaphbbdnbaa
