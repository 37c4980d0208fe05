/-
  strings.Join over the pieces of a row.
-/
import Derived.Test.YtdalpicpkandcabCkEq
import Derived.Test.YtdalpicpkandcabShelfJoin
namespace Go.Proofs.Ytdalpicpkandcab
open Go.RowKit

theorem join_flat (l : List Ck.Bs) : Lib.join l [] = l.flatten := by
  unfold Lib.join
  induction l with
  | nil => rfl
  | cons p l ih =>
    cases l with
    | nil => simp [List.intercalate]
    | cons q l =>
      simp only [List.intercalate] at ih ⊢
      rw [List.intersperse_cons_cons, List.flatten_cons, List.flatten_cons, ih]
      simp
/-- the pieces from o on, n of them -/
theorem join_cells {V : World} {l : List Ck.Bs} {g o cap : Nat} (h : ∀ j (hj : j < l.length), V.cell? ⟨g, o + j, none⟩ = some (Sv l[j])) (hg : g < V.heap.size) (hc : l.length ≤ cap) (hl : l.length ≤ 4096) (hf : l.flatten.length ≤ 140737488355328) :
    Calls Try.prog 7 #[.slice (some ⟨g, o, none⟩) l.length cap, .string ⟨#[]⟩] V fun e w' => e = .returned (Sv l.flatten) ∧ Below V.heap.size V w' := by
  have hm : (l.map fun p => (⟨p.toArray⟩ : ByteArray)).map (·.data.toList) = l := by
    rw [List.map_map]
    have : ((fun x : ByteArray => x.data.toList) ∘ fun p : Ck.Bs => (⟨p.toArray⟩ : ByteArray)) = id := by funext p; simp
    rw [this, List.map_id]
  have := Try.strings_Join g o cap (l.map fun p => ⟨p.toArray⟩) ⟨#[]⟩ V ?_ hg ?_ ?_ ?_
  · rw [List.length_map] at this
    refine this.mono ?_
    rintro e w' ⟨rfl, hb⟩
    refine ⟨?_, hb⟩
    rw [hm, show (⟨#[]⟩ : ByteArray).data.toList = [] from rfl, join_flat]
    rfl
  · intro j x hx
    rw [List.getElem?_map] at hx
    rcases Nat.lt_or_ge j l.length with hj | hj
    · rw [List.getElem?_eq_getElem hj] at hx
      cases hx
      exact h j hj
    · rw [List.getElem?_eq_none hj] at hx; cases hx
  · rw [List.length_map]; omega
  · rw [List.length_map]; exact hc
  · rw [hm, show (⟨#[]⟩ : ByteArray).data.toList = [] from rfl, join_flat]; exact hf
theorem own_cap {base : Nat} {V : World} {l : List Ck.Bs} {g n cap : Nat} (h : V.ownsRow base 9 1 (.slice (some ⟨g, 0, none⟩) n cap) l.length (l.map Sv)) : l.length ≤ cap ∧ g < V.heap.size := by
  rcases h.2 with ⟨hv, _⟩ | ⟨g', cap', cur, hv, _, hh, hle, _⟩
  · cases hv
  · cases hv
    exact ⟨hle, (Array.getElem?_eq_some_iff.1 hh).1⟩
theorem join_own {base : Nat} {V : World} {l : List Ck.Bs} {v : Value} (h : V.ownsRow base 9 1 v l.length (l.map Sv)) (hl : l.length ≤ 4096) (hf : l.flatten.length ≤ 140737488355328) :
    Calls Try.prog 7 #[v, .string ⟨#[]⟩] V fun e w' => e = .returned (Sv l.flatten) ∧ Below V.heap.size V w' := by
  rcases Nat.eq_zero_or_pos l.length with h0 | h0
  · obtain ⟨a1, c1, rfl⟩ : ∃ a c, v = .slice a 0 c := by
      rcases h.2 with ⟨rfl, _⟩ | ⟨g, cap, _, rfl, _⟩
      · exact ⟨_, _, rfl⟩
      · rw [h0]; exact ⟨_, _, rfl⟩
    refine (Try.strings_Join_none a1 c1 ⟨#[]⟩ V).mono ?_
    rintro e w' ⟨rfl, rfl⟩
    rw [List.length_eq_zero_iff.1 h0]
    exact ⟨rfl, Below.refl _ _⟩
  · obtain ⟨g, cap, rfl⟩ := own_split h h0
    have hc := own_cap h
    exact join_cells (fun j hj => by rw [Nat.zero_add]; exact own_cell h j hj) hc.2 hc.1 hl hf
end Go.Proofs.Ytdalpicpkandcab
