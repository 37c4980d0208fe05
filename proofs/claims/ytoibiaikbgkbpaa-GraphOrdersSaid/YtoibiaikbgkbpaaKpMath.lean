/-
  Plain facts (no Go in here): what is kept, P57: spans of times, which of them are new, how many there are.
-/
import Derived.Test.YtoibiaikbgkbpaaCvMath
namespace Go.Proofs.Ytoibiaikbgkbpaa
namespace Kp

/-- the day of a time, and its span by a rule from 0 to 3, as one number -/
def day (t : Int) : Int := t / 1440
def sp (r : Nat) (t : Int) : Int :=
  if r = 0 then day t else if r = 1 then 100 * (Cv.week (day t)).1 + (Cv.week (day t)).2 else if r = 2 then 100 * (Cv.date (day t)).1 + (Cv.date (day t)).2.1 else (Cv.date (day t)).1

/-! ### later times lie in no earlier spans -/

theorem up_of_next (f : Int → Int) (h : ∀ n, f n ≤ f (n + 1)) {a b : Int} (hab : a ≤ b) : f a ≤ f b := by
  obtain ⟨k, rfl⟩ : ∃ k : Nat, b = a + k := ⟨(b - a).toNat, by omega⟩
  clear hab
  induction k with
  | zero => simp
  | succ k ih =>
    have := h (a + k)
    have e : a + ((k + 1 : Nat) : Int) = a + k + 1 := by omega
    rw [e]
    omega

theorem week_up (n : Int) : 100 * (Cv.week n).1 + (Cv.week n).2 ≤ 100 * (Cv.week (n + 1)).1 + (Cv.week (n + 1)).2 := by
  have h := Cv.week_next n
  have h7 := Cv.weekday_in n
  have hw := Cv.week_in n
  by_cases h8 : Cv.weekday n < 7
  · rw [h.1 h8]; exact Int.le_refl _
  · rcases h.2 (by omega) with e | e
    · rw [e]; dsimp only; omega
    · rw [e]; dsimp only; omega

theorem month_up (n : Int) : 100 * (Cv.date n).1 + (Cv.date n).2.1 ≤ 100 * (Cv.date (n + 1)).1 + (Cv.date (n + 1)).2.1 := by
  obtain ⟨y, m, d, hd⟩ : ∃ y m d, Cv.date n = (y, m, d) := ⟨_, _, _, rfl⟩
  rw [hd]
  rcases Cv.date_next hd with ⟨_, h⟩ | ⟨_, ⟨_, h⟩ | ⟨_, h⟩⟩ <;> rw [h] <;> dsimp only <;> omega

theorem year_up (n : Int) : (Cv.date n).1 ≤ (Cv.date (n + 1)).1 := by
  obtain ⟨y, m, d, hd⟩ : ∃ y m d, Cv.date n = (y, m, d) := ⟨_, _, _, rfl⟩
  rw [hd]
  rcases Cv.date_next hd with ⟨_, h⟩ | ⟨_, ⟨_, h⟩ | ⟨_, h⟩⟩ <;> rw [h] <;> dsimp only <;> omega

theorem sp_up (r : Nat) {s t : Int} (h : s ≤ t) : sp r s ≤ sp r t := by
  have hd : day s ≤ day t := by unfold day; omega
  unfold sp
  split
  · exact hd
  · split
    · exact up_of_next (fun n => 100 * (Cv.week n).1 + (Cv.week n).2) week_up hd
    · split
      · exact up_of_next (fun n => 100 * (Cv.date n).1 + (Cv.date n).2.1) month_up hd
      · exact up_of_next (fun n => (Cv.date n).1) year_up hd

/-! ### which are kept -/

/-- the spans so far, by the document's way -/
def spn (r : Nat) (most : Int) (l : List Int) : List Int := l.foldl (fun S t => if sp r t ∉ S ∧ (S.length : Int) < most then S ++ [sp r t] else S) []

theorem spn_nil (r : Nat) (most : Int) : spn r most [] = [] := rfl
theorem spn_snoc (r : Nat) (most : Int) (l : List Int) (t : Int) : spn r most (l ++ [t]) = if sp r t ∉ spn r most l ∧ ((spn r most l).length : Int) < most then spn r most l ++ [sp r t] else spn r most l := by
  unfold spn; rw [List.foldl_append]; rfl

/-- does a rule keep the i-th time? -/
def kb (r : Nat) (most : Int) (l : List Int) (i : Nat) : Prop := sp r (l.getD i 0) ∉ spn r most (l.take i) ∧ ((spn r most (l.take i)).length : Int) < most
instance (r : Nat) (most : Int) (l : List Int) (i : Nat) : Decidable (kb r most l i) := by unfold kb; infer_instance

theorem take_next {l : List Int} {i : Nat} (h : i < l.length) : l.take (i + 1) = l.take i ++ [l.getD i 0] := by
  rw [List.take_succ_eq_append_getElem h, List.getD_eq_getElem?_getD, List.getElem?_eq_getElem h]
  rfl

theorem spn_next (r : Nat) (most : Int) {l : List Int} {i : Nat} (h : i < l.length) : spn r most (l.take (i + 1)) = if kb r most l i then spn r most (l.take i) ++ [sp r (l.getD i 0)] else spn r most (l.take i) := by
  rw [take_next h, spn_snoc]
  rfl

theorem spn_in (r : Nat) (most : Int) {l : List Int} : ∀ i, i ≤ l.length → ∀ s ∈ spn r most (l.take i), ∃ j, j < i ∧ s = sp r (l.getD j 0) := by
  intro i
  induction i with
  | zero => intro _ s h; exact absurd h (by simp [spn_nil])
  | succ i ih =>
    intro hi s h
    rw [spn_next r most (by omega)] at h
    split at h
    · rcases List.mem_append.1 h with h | h
      · obtain ⟨j, h1, h2⟩ := ih (by omega) s h
        exact ⟨j, by omega, h2⟩
      · exact ⟨i, by omega, List.mem_singleton.1 h⟩
    · obtain ⟨j, h1, h2⟩ := ih (by omega) s h
      exact ⟨j, by omega, h2⟩

/-- as long as there is room, all spans so far are there -/
theorem spn_full (r : Nat) (most : Int) {l : List Int} : ∀ i, i ≤ l.length → ((spn r most (l.take i)).length : Int) < most → ∀ j, j < i → sp r (l.getD j 0) ∈ spn r most (l.take i) := by
  intro i
  induction i with
  | zero => intro _ _ j h; omega
  | succ i ih =>
    intro hi hl j hj
    rw [spn_next r most (by omega)] at hl ⊢
    split at hl
    · rename_i hk
      rw [if_pos hk]
      rw [List.length_append, List.length_singleton] at hl
      by_cases e : j = i
      · subst e; simp
      · exact List.mem_append_left _ (ih (by omega) (by omega) j (by omega))
    · rename_i hk
      rw [if_neg hk]
      by_cases e : j = i
      · subst e
        exact Decidable.byContradiction fun q => hk ⟨q, hl⟩
      · exact ih (by omega) hl j (by omega)

theorem spn_le (r : Nat) (most : Int) {l : List Int} : ∀ i, i ≤ l.length → ((spn r most (l.take i)).length : Int) ≤ max 0 most := by
  intro i
  induction i with
  | zero => intro _; rw [List.take_zero, spn_nil]; simp; omega
  | succ i ih =>
    intro hi
    have h := ih (by omega)
    rw [spn_next r most (by omega)]
    split
    · rename_i hk
      have := hk.2
      rw [List.length_append, List.length_singleton]
      omega
    · exact h

theorem spn_nodup (r : Nat) (most : Int) {l : List Int} : ∀ i, i ≤ l.length → (spn r most (l.take i)).Nodup := by
  intro i
  induction i with
  | zero => intro _; rw [List.take_zero, spn_nil]; exact List.nodup_nil
  | succ i ih =>
    intro hi
    have h := ih (by omega)
    rw [spn_next r most (by omega)]
    split
    · rename_i hk
      refine List.nodup_append.2 ⟨h, by simp, ?_⟩
      intro a ha b hb e
      rw [List.mem_singleton.1 hb] at e
      exact hk.1 (e ▸ ha)
    · exact h

/-- who keeps more keeps the same while there is room -/
theorem spn_same (r : Nat) {m m' : Int} (hm : m ≤ m') {l : List Int} : ∀ i, i ≤ l.length → ((spn r m (l.take i)).length : Int) < m → spn r m' (l.take i) = spn r m (l.take i) := by
  intro i
  induction i with
  | zero => intro _ _; rfl
  | succ i ih =>
    intro hi hl
    have hle : (spn r m (l.take i)).length ≤ (spn r m (l.take (i + 1))).length := by
      rw [spn_next r m (by omega)]
      split
      · rw [List.length_append]; omega
      · exact Nat.le_refl _
    have h := ih (by omega) (by omega)
    rw [spn_next r m (by omega), spn_next r m' (by omega), h]
    have hk : kb r m' l i ↔ kb r m l i := by
      unfold kb
      rw [h]
      constructor
      · exact fun ⟨a, _⟩ => ⟨a, by omega⟩
      · exact fun ⟨a, _⟩ => ⟨a, by omega⟩
    by_cases q : kb r m l i
    · rw [if_pos q, if_pos (hk.2 q)]
    · rw [if_neg q, if_neg (fun x => q (hk.1 x))]

theorem kb_more {r : Nat} {m m' : Int} (hm : m ≤ m') {l : List Int} {i : Nat} (hi : i ≤ l.length) (h : kb r m l i) : kb r m' l i := by
  have e := spn_same r hm i hi h.2
  unfold kb at h ⊢
  rw [e]
  exact ⟨h.1, by omega⟩

/-! ### the newest come first -/

def Desc (l : List Int) : Prop := ∀ i j, i ≤ j → j < l.length → l.getD j 0 ≤ l.getD i 0

/-- does a span begin at the i-th time? -/
def new (r : Nat) (l : List Int) (i : Nat) : Prop := i = 0 ∨ sp r (l.getD (i - 1) 0) ≠ sp r (l.getD i 0)
instance (r : Nat) (l : List Int) (i : Nat) : Decidable (new r l i) := by unfold new; infer_instance

/-- how many spans begin ahead of the i-th time -/
def chg (r : Nat) (l : List Int) : Nat → Nat
  | 0 => 0
  | i + 1 => if new r l i then chg r l i + 1 else chg r l i

theorem old_iff {r : Nat} {l : List Int} (hD : Desc l) {i : Nat} (hi : i < l.length) : (∃ j, j < i ∧ sp r (l.getD i 0) = sp r (l.getD j 0)) ↔ ¬ new r l i := by
  unfold new
  constructor
  · rintro ⟨j, h1, h2⟩ h
    rcases h with h | h
    · omega
    · have a := sp_up r (hD (i - 1) i (by omega) hi)
      have b := sp_up r (hD j (i - 1) (by omega) (by omega))
      omega
  · intro h
    exact ⟨i - 1, by omega, by omega⟩

theorem spn_len (r : Nat) (most : Int) {l : List Int} (hD : Desc l) : ∀ i, i ≤ l.length → (spn r most (l.take i)).length = min (chg r l i) most.toNat ∧ (i < l.length → (kb r most l i ↔ (new r l i ∧ (chg r l i : Int) < most))) := by
  intro i
  have key : ∀ i, i ≤ l.length → (spn r most (l.take i)).length = min (chg r l i) most.toNat → i < l.length → (kb r most l i ↔ (new r l i ∧ (chg r l i : Int) < most)) := by
    intro i _ hlen hi
    constructor
    · rintro ⟨h1, h2⟩
      refine ⟨?_, by omega⟩
      refine Decidable.byContradiction fun q => ?_
      obtain ⟨j, h3, h4⟩ := (old_iff hD hi).2 q
      exact h1 (h4 ▸ spn_full r most i (by omega) h2 j h3)
    · rintro ⟨h1, h2⟩
      refine ⟨fun h => ?_, by omega⟩
      obtain ⟨j, h3, h4⟩ := spn_in r most i (by omega) _ h
      exact (old_iff hD hi).1 ⟨j, h3, h4⟩ h1
  induction i with
  | zero => intro hi; exact ⟨by rw [List.take_zero, spn_nil]; simp [chg], key 0 hi (by rw [List.take_zero, spn_nil]; simp [chg])⟩
  | succ i ih =>
    intro hi
    obtain ⟨h1, h2⟩ := ih (by omega)
    have h3 := h2 (by omega)
    have hlen : (spn r most (l.take (i + 1))).length = min (chg r l (i + 1)) most.toNat := by
      rw [spn_next r most (by omega), chg]
      by_cases hk : kb r most l i
      · have := h3.1 hk
        rw [if_pos hk, if_pos this.1, List.length_append, List.length_singleton]
        omega
      · rw [if_neg hk]
        by_cases hn : new r l i
        · rw [if_pos hn]
          have : ¬ (chg r l i : Int) < most := fun q => hk (h3.2 ⟨hn, q⟩)
          omega
        · rw [if_neg hn]; exact h1
    exact ⟨hlen, key (i + 1) hi hlen⟩

theorem kb_iff {r : Nat} {most : Int} {l : List Int} (hD : Desc l) {i : Nat} (hi : i < l.length) : kb r most l i ↔ (new r l i ∧ (chg r l i : Int) < most) := (spn_len r most hD i (by omega)).2 hi

/-! ### a policy -/

structure Pol where
  last : Int
  days : Int
  weeks : Int
  months : Int
  years : Int

def Pol.most (p : Pol) (r : Nat) : Int := if r = 0 then p.days else if r = 1 then p.weeks else if r = 2 then p.months else p.years
def Pol.Ok (p : Pol) : Prop := (0 ≤ p.last ∧ p.last ≤ 100) ∧ (0 ≤ p.days ∧ p.days ≤ 100) ∧ (0 ≤ p.weeks ∧ p.weeks ≤ 100) ∧ (0 ≤ p.months ∧ p.months ≤ 100) ∧ (0 ≤ p.years ∧ p.years ≤ 100)
instance (p : Pol) : Decidable p.Ok := by unfold Pol.Ok; infer_instance

/-- is the i-th time kept, by Last and the first k of the four rules? -/
def keepTo (p : Pol) (l : List Int) (k i : Nat) : Prop := (i : Int) < p.last ∨ ∃ r, r < k ∧ kb r (p.most r) l i
instance (p : Pol) (l : List Int) (k i : Nat) : Decidable (keepTo p l k i) := by unfold keepTo; infer_instance
def keeps (p : Pol) (l : List Int) (i : Nat) : Prop := keepTo p l 4 i
instance (p : Pol) (l : List Int) (i : Nat) : Decidable (keeps p l i) := by unfold keeps; infer_instance

theorem keepTo_next (p : Pol) (l : List Int) (k i : Nat) : keepTo p l (k + 1) i ↔ keepTo p l k i ∨ kb k (p.most k) l i := by
  unfold keepTo
  constructor
  · rintro (h | ⟨r, h1, h2⟩)
    · exact .inl (.inl h)
    · by_cases e : r = k
      · subst e; exact .inr h2
      · exact .inl (.inr ⟨r, by omega, h2⟩)
  · rintro ((h | ⟨r, h1, h2⟩) | h)
    · exact .inl h
    · exact .inr ⟨r, by omega, h2⟩
    · exact .inr ⟨k, by omega, h⟩

/-- of each time: is it kept? -/
def kept (p : Pol) (l : List Int) : List Bool := (List.range l.length).map fun i => decide (keeps p l i)
theorem kept_length (p : Pol) (l : List Int) : (kept p l).length = l.length := by simp [kept]
theorem kept_at (p : Pol) (l : List Int) {i : Nat} (h : i < l.length) : (kept p l)[i]? = some (decide (keeps p l i)) := by simp [kept, h]

/-! ### times that are handed in -/

/-- what is wrong at the i-th time -/
def errAt (l : List Int) (i : Nat) : Int := if l.getD i 0 < 0 ∨ 4223371679 < l.getD i 0 then 1 else if 0 < i ∧ l.getD (i - 1) 0 < l.getD i 0 then 4 else 0
def chkTo (l : List Int) : Nat → Int
  | 0 => 0
  | i + 1 => if chkTo l i ≠ 0 then chkTo l i else errAt l i
def chk (l : List Int) : Int := chkTo l l.length
theorem chkTo_ok {l : List Int} : ∀ k, (∀ i, i < k → errAt l i = 0) → chkTo l k = 0
  | 0, _ => rfl
  | k + 1, h => by rw [chkTo, chkTo_ok k (fun i hi => h i (by omega)), if_neg (by simp), h k (by omega)]
theorem chkTo_first {l : List Int} {i : Nat} (h : ∀ j, j < i → errAt l j = 0) (he : errAt l i ≠ 0) : ∀ k, i < k → chkTo l k = errAt l i := by
  intro k
  induction k with
  | zero => intro h; omega
  | succ k ih =>
    intro hk
    rw [chkTo]
    by_cases e : i = k
    · subst e; rw [chkTo_ok i h, if_neg (by simp)]
    · rw [ih (by omega), if_pos he]
theorem chkTo_zero {l : List Int} : ∀ k, chkTo l k = 0 → ∀ i, i < k → errAt l i = 0
  | 0, _, _, hi => by omega
  | k + 1, h, i, hi => by
    rw [chkTo] at h
    by_cases q : chkTo l k = 0
    · rw [q, if_neg (by simp)] at h
      by_cases e : i = k
      · subst e; exact h
      · exact chkTo_zero k q i (by omega)
    · rw [if_pos q] at h; exact absurd h q

theorem err_ok {l : List Int} {i : Nat} (h : errAt l i = 0) : 0 ≤ l.getD i 0 ∧ l.getD i 0 ≤ 4223371679 ∧ (0 < i → l.getD i 0 ≤ l.getD (i - 1) 0) := by
  unfold errAt at h
  split at h
  · omega
  · split at h
    · omega
    · refine ⟨by omega, by omega, fun q => ?_⟩; omega

theorem chk_desc {l : List Int} (h : chk l = 0) : Desc l := by
  have h1 := chkTo_zero _ h
  intro i j hij hj
  obtain ⟨k, rfl⟩ : ∃ k, j = i + k := ⟨j - i, by omega⟩
  clear hij
  induction k with
  | zero => exact Int.le_refl _
  | succ k ih =>
    have a := ih (by omega)
    have b := (err_ok (h1 (i + (k + 1)) hj)).2.2 (by omega)
    rw [show i + (k + 1) - 1 = i + k by omega] at b
    omega

/-- a time that is right lies in a day that there is -/
theorem day_ok {l : List Int} (h : chk l = 0) {i : Nat} (hi : i < l.length) : 0 ≤ day (l.getD i 0) ∧ day (l.getD i 0) ≤ 2932896 ∧ Cv.dayOk (day (l.getD i 0)) := by
  have := err_ok (chkTo_zero _ h i hi)
  unfold Cv.dayOk day
  omega

end Kp
end Go.Proofs.Ytoibiaikbgkbpaa
