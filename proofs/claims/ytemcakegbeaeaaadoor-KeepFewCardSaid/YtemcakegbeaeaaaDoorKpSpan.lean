/-
  Plain facts (no Go in here): spans as the program has them, pairs of numbers; what ends the newest spans.
-/
import Derived.Test.YtemcakegbeaeaaaDoorKpMath
namespace Go.Proofs.YtemcakegbeaeaaaDoor
namespace Kp

/-- the span of a day, by a rule from 0 to 3 -/
def spanP (r : Nat) (n : Int) : Int × Int := if r = 0 then (0, n) else if r = 1 then Cv.week n else if r = 2 then ((Cv.date n).1, (Cv.date n).2.1) else ((Cv.date n).1, 0)

theorem pair_iff (a b : Int × Int) : a = b ↔ (a.1 = b.1 ∧ a.2 = b.2) := ⟨fun h => by rw [h]; exact ⟨rfl, rfl⟩, fun h => Prod.ext h.1 h.2⟩

theorem spanP_iff (r : Nat) (s t : Int) : (spanP r (day s)).1 = (spanP r (day t)).1 ∧ (spanP r (day s)).2 = (spanP r (day t)).2 ↔ sp r s = sp r t := by
  unfold spanP sp
  have w1 := Cv.week_in (day s)
  have w2 := Cv.week_in (day t)
  obtain ⟨d1, d1', -, -⟩ := (Cv.date_at (day s)).1
  obtain ⟨d2, d2', -, -⟩ := (Cv.date_at (day t)).1
  split
  · dsimp only; omega
  · split
    · omega
    · split
      · dsimp only; omega
      · simp

theorem chg_le (r : Nat) (l : List Int) (k : Nat) : chg r l k ≤ chg r l (k + 1) := by
  rw [chg]; split <;> omega

theorem chg_up (r : Nat) (l : List Int) {i j : Nat} (h : i ≤ j) : chg r l i ≤ chg r l j := by
  obtain ⟨k, rfl⟩ : ∃ k, j = i + k := ⟨j - i, by omega⟩
  clear h
  induction k with
  | zero => exact Nat.le_refl _
  | succ k ih => exact Nat.le_trans ih (chg_le r l (i + k))

theorem kb_stop {r : Nat} {m : Int} {l : List Int} (hD : Desc l) {k i : Nat} (hm : m ≤ (chg r l k : Int)) (hk : k ≤ i) (hi : i < l.length) : ¬ kb r m l i := by
  rw [kb_iff hD hi]
  have := chg_up r l hk
  omega

theorem chg_new {r : Nat} {l : List Int} {k : Nat} (h : new r l k) : chg r l (k + 1) = chg r l k + 1 := by rw [chg, if_pos h]
theorem chg_old {r : Nat} {l : List Int} {k : Nat} (h : ¬ new r l k) : chg r l (k + 1) = chg r l k := by rw [chg, if_neg h]

/-- what lies in the newest so many spans, of the first k times -/
def nw (r : Nat) (m : Int) (l : List Int) (f : Nat → Bool) (k i : Nat) : Bool := f i || (decide (i < k) && decide (kb r m l i))

theorem nw_zero (r : Nat) (m : Int) (l : List Int) (f : Nat → Bool) (i : Nat) : nw r m l f 0 i = f i := by simp [nw]
theorem nw_old {r : Nat} {m : Int} {l : List Int} (hD : Desc l) (f : Nat → Bool) {k : Nat} (hk : k < l.length) (h : ¬ new r l k) (i : Nat) : nw r m l f (k + 1) i = nw r m l f k i := by
  unfold nw
  by_cases e : i = k
  · subst e
    have : ¬ kb r m l i := fun q => h ((kb_iff hD hk).1 q).1
    simp [this]
  · have : (i < k + 1) ↔ i < k := by omega
    simp [this]
theorem nw_new {r : Nat} {m : Int} {l : List Int} (hD : Desc l) (f : Nat → Bool) {k : Nat} (hk : k < l.length) (h : new r l k) (hm : (chg r l k : Int) < m) (i : Nat) : (if i = k then true else nw r m l f k i) = nw r m l f (k + 1) i := by
  unfold nw
  by_cases e : i = k
  · subst e
    have : kb r m l i := (kb_iff hD hk).2 ⟨h, hm⟩
    simp [this]
  · have : (i < k + 1) ↔ i < k := by omega
    simp [this, e]
theorem nw_stop {r : Nat} {m : Int} {l : List Int} (hD : Desc l) (f : Nat → Bool) {k : Nat} (hm : m ≤ (chg r l k : Int)) {i : Nat} (hi : i < l.length) : nw r m l f k i = nw r m l f l.length i := by
  unfold nw
  by_cases e : i < k
  · simp [e, hi]
  · have : ¬ kb r m l i := kb_stop hD hm (by omega) hi
    simp [e, this]

theorem keep_last (p : Pol) (l : List Int) (i : Nat) : decide (keepTo p l 0 i) = decide ((i : Int) < p.last) := by
  unfold keepTo
  simp
theorem keep_nw (p : Pol) (l : List Int) (r : Nat) {i : Nat} (hi : i < l.length) : nw r (p.most r) l (fun i => decide (keepTo p l r i)) l.length i = decide (keepTo p l (r + 1) i) := by
  rw [Bool.eq_iff_iff, decide_eq_true_iff, keepTo_next]
  unfold nw
  simp [hi]

end Kp
end Go.Proofs.YtemcakegbeaeaaaDoor
