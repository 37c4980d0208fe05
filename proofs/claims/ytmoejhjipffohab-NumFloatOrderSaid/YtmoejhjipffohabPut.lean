/-
  What Put, PutInt, PutFloat of package num answer.
-/
import Derived.Test.YtmoejhjipffohabLow
namespace Go.Proofs.Ytmoejhjipffohab
open Go.RowKit

/-- 'string(v)', v the call's own bytes. -/
theorem run_str {base : Nat} {v : Value} {l : List UInt8} {w : World} (h : w.ownsRow base 5 1 v l.length (l.map B)) :
    (convert 40 9 v).run Try.prog w = .ok (.string ⟨l.toArray⟩) w := by
  obtain ⟨h1, h2⟩ := h
  rcases h2 with ⟨rfl, h0⟩ | ⟨g, cap, cur, rfl, hb, hg, hle, hm, hs, htk⟩
  · have : l = [] := List.length_eq_zero_iff.1 h0
    subst this
    exact run_convert_bytes_nil w 40 5 (by kernel_rfl) (by kernel_rfl) 0 0 9 (by kernel_rfl)
  · refine run_convert_bytes_back w 40 9 5 ⟨g, 0, none⟩ cap l (by kernel_rfl) (by kernel_rfl) (by kernel_rfl) ?_
    intro j hj
    have := World.ownsRow.cells (w := w) (base := base) (e := 5) (size := 1) (v := .slice (some ⟨g, 0, none⟩) l.length cap) (n := l.length) (xs := l.map B) ⟨h1, .inr ⟨g, cap, cur, rfl, hb, hg, hle, hm, hs, htk⟩⟩ (g := g) rfl j (B l[j]) (by simp [hj])
    simpa [B] using this

theorem owns_one (w : World) (c : Int) (h0 : 0 ≤ c) (h1 : c ≤ 255) :
    (w.alloc (.cells #[.int .u8 c] 5)).ownsRow w.heap.size 5 1 (.slice (some ⟨w.heap.size, 0, none⟩) 1 1) [UInt8.ofNat c.toNat].length ([UInt8.ofNat c.toNat].map B) :=
  ⟨by simp, .inr ⟨w.heap.size, 1, #[.int .u8 c], rfl, Nat.le_refl _, heap_alloc_new w _, Nat.le_refl _, by unfold maxLen; omega, rfl, by simp [B]; omega⟩⟩

set_option maxHeartbeats 400000 in
theorem put_any (n : Int) (w : World) (n0 : 0 ≤ n) (n1 : n ≤ 18446744073709551615) :
    Calls Try.prog 6 #[.int .u64 n] w fun e w' => e = .returned (.string ⟨(Nm.put n.toNat).toArray⟩) ∧ Below w.heap.size w w' := by
  have hl := Nm.dig_length_le n.toNat
  go_enter Try.func6, Try.ntmps6
  go_wp2_with (go_at_call 16; refine (count_any _ _ n0 n1).mono ?_; rintro e w' ⟨rfl, rfl⟩)
  refine (append_any w'.heap.size _ [UInt8.ofNat ((Nm.dig n.toNat).length : Int).toNat] n _ 0 _ (owns_one _ _ (by omega) (by omega)) (by simp) (by simp) n0 n1 (by omega) (by omega) (by omega) (by omega)).mono ?_
  rintro e w2 ⟨v, rfl, hown, hbel⟩
  have hcv := run_str hown
  have hb : Below w'.heap.size w' w2 := ((Below.refl _ _).alloc (Nat.le_refl _) _).trans hbel
  clear hown hbel
  go_wp2
  go_ret
  exact ⟨by simp [Nm.put, Nm.tn_zero, Nm.dig_low], hb⟩
end Go.Proofs.Ytmoejhjipffohab
