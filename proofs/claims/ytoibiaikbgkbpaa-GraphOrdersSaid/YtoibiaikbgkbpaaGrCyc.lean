/-
  Plain facts (no Go in here): is some thing reached by its own kids; where a thing stands in the order.
-/
import Derived.Test.YtoibiaikbgkbpaaGrLaws
namespace Go.Proofs.Ytoibiaikbgkbpaa
namespace Gr

theorem rErr_kd {K : List (List Int)} (hg : gErr K = 0) {i : Nat} (hi : i < K.length) : rErr K (kd K i) = 0 := by
  unfold rErr
  rw [hg, if_neg (by simp)]
  unfold gErr at hg
  split at hg
  · omega
  · exact gErrTo_zero _ hg i hi

/-- is one of the first m things reached by its own kids? -/
def cyc (K : List (List Int)) : Nat → Bool
  | 0 => false
  | m + 1 => cyc K m || (rch K (kd K m)).getD m false

theorem cyc_no {K : List (List Int)} (hg : gErr K = 0) (h : ∀ i, i < K.length → ¬ Rc K (kd K i) i) : ∀ m, m ≤ K.length → cyc K m = false
  | 0, _ => rfl
  | m + 1, hm => by
    rw [cyc, cyc_no hg h m (by omega), Bool.false_or]
    have h1 := h m (by omega)
    rw [← rch_iff (rErr_kd hg (by omega)) (by omega)] at h1
    simpa using h1

theorem cyc_yes {K : List (List Int)} (hg : gErr K = 0) {i : Nat} (hi : i < K.length) (h : Rc K (kd K i) i) : ∀ m, i < m → m ≤ K.length → cyc K m = true
  | 0, h1, _ => by omega
  | m + 1, h1, hm => by
    rw [cyc]
    by_cases e : i = m
    · subst e
      rw [(rch_iff (rErr_kd hg hi) hi).2 h, Bool.or_true]
    · rw [cyc_yes hg hi h m (by omega) (by omega), Bool.true_or]

/-- where the last of the first j that is k stands, from 1 on; 0: nowhere -/
def pos (out : List Int) : Nat → Int → Nat
  | 0, _ => 0
  | j + 1, k => if out.getD j 0 = k then j + 1 else pos out j k

theorem pos_le (out : List Int) (k : Int) : ∀ j, pos out j k ≤ j
  | 0 => Nat.le_refl _
  | j + 1 => by
    rw [pos]
    have := pos_le out k j
    split <;> omega

theorem pos_at {K : List (List Int)} {n : Nat} {out : List Int} (h : Told K n out) {p : Nat} (hp : p < out.length) : ∀ j, p < j → j ≤ out.length → pos out j out[p] = p + 1
  | 0, h1, _ => by omega
  | j + 1, h1, h2 => by
    rw [pos, List.getD_eq_getElem?_getD, List.getElem?_eq_getElem (by omega)]
    show (if out[j] = out[p] then _ else _) = _
    by_cases e : j = p
    · subst e; rw [if_pos rfl]
    · rw [if_neg (fun q => e (told_once h (by omega) hp q)), pos_at h hp j (by omega) (by omega)]

/-- kids stand ahead -/
theorem pos_kid {K : List (List Int)} {out : List Int} (h : Told K K.length out) {i : Nat} (hi : i < K.length) {k : Int} (hk : k ∈ kd K i) : 0 < pos out K.length k ∧ pos out K.length k < pos out K.length (i : Int) := by
  obtain ⟨p, hp, e⟩ := told_at h hi
  obtain ⟨q, hq, hqp, e2⟩ := told_ahead h hp e hk
  have hl := h.len
  have h1 := pos_at h hp K.length (by omega) (by omega)
  have h2 := pos_at h hq K.length (by omega) (by omega)
  rw [e] at h1
  rw [e2] at h2
  omega

/-- the next one of the order is new -/
theorem told_new {K : List (List Int)} {n : Nat} {out : List Int} (h : Told K n out) {j : Nat} (hj : j < out.length) : out[j] ∉ out.take j := by
  intro hm
  obtain ⟨p, hp, e⟩ := List.getElem_of_mem hm
  rw [List.length_take] at hp
  rw [List.getElem_take] at e
  have := told_once h (by omega) hj e
  omega

end Gr
end Go.Proofs.Ytoibiaikbgkbpaa
