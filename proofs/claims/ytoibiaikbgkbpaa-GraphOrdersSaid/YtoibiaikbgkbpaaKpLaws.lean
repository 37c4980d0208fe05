/-
  Plain facts (no Go in here): what P57 promises of what is kept.
-/
import Derived.Test.YtoibiaikbgkbpaaKpMath
namespace Go.Proofs.Ytoibiaikbgkbpaa
namespace Kp

/-- who keeps more of each kind keeps all that is kept -/
theorem more {p q : Pol} (hl : p.last ≤ q.last) (hm : ∀ r, p.most r ≤ q.most r) {l : List Int} {i : Nat} (hi : i < l.length) (h : keeps p l i) : keeps q l i := by
  rcases h with h | ⟨r, h1, h2⟩
  · exact .inl (by omega)
  · exact .inr ⟨r, h1, kb_more (hm r) (by omega) h2⟩

/-- the times that are marked -/
def pk : List Int → List Bool → List Int
  | t :: l, b :: m => if b then t :: pk l m else pk l m
  | _, _ => []

theorem pk_append : ∀ (l : List Int) (m : List Bool) (l' : List Int) (m' : List Bool), l.length = m.length → pk (l ++ l') (m ++ m') = pk l m ++ pk l' m'
  | [], [], _, _, _ => by simp [pk]
  | t :: l, b :: m, l', m', h => by
    have ih := pk_append l m l' m' (by simpa using h)
    show (if b then t :: pk (l ++ l') (m ++ m') else pk (l ++ l') (m ++ m')) = (if b then t :: pk l m else pk l m) ++ pk l' m'
    rw [ih]
    cases b <;> rfl

theorem pk_next {l : List Int} {m : List Bool} (hl : l.length = m.length) {i : Nat} (hi : i < l.length) {b : Bool} (hb : m[i]? = some b) : pk (l.take (i + 1)) (m.take (i + 1)) = if b then pk (l.take i) (m.take i) ++ [l.getD i 0] else pk (l.take i) (m.take i) := by
  have hm : m.take (i + 1) = m.take i ++ [b] := by
    obtain ⟨h, e⟩ := List.getElem?_eq_some_iff.1 hb
    rw [List.take_succ_eq_append_getElem h, e]
  rw [take_next hi, hm, pk_append _ _ _ _ (by simp; omega)]
  cases b <;> simp [pk]

/-- what is kept of the first i times -/
def kp (p : Pol) (l : List Int) (i : Nat) : List Int := pk (l.take i) ((kept p l).take i)

theorem kp_next (p : Pol) {l : List Int} {i : Nat} (hi : i < l.length) : kp p l (i + 1) = if keeps p l i then kp p l i ++ [l.getD i 0] else kp p l i := by
  unfold kp
  rw [pk_next (kept_length p l).symm hi (kept_at p l hi)]
  by_cases h : keeps p l i <;> simp [h]

theorem kp_all (p : Pol) (l : List Int) : kp p l l.length = pk l (kept p l) := by
  unfold kp
  rw [List.take_length, ← kept_length p l, List.take_length]

theorem kp_in (p : Pol) {l : List Int} : ∀ i, i ≤ l.length → ∀ x ∈ kp p l i, ∃ j, j < i ∧ x = l.getD j 0 := by
  intro i
  induction i with
  | zero => intro _ x h; simp [kp, pk] at h
  | succ i ih =>
    intro hi x h
    rw [kp_next p (by omega)] at h
    split at h
    · rcases List.mem_append.1 h with h | h
      · obtain ⟨j, h1, h2⟩ := ih (by omega) x h
        exact ⟨j, by omega, h2⟩
      · exact ⟨i, by omega, List.mem_singleton.1 h⟩
    · obtain ⟨j, h1, h2⟩ := ih (by omega) x h
      exact ⟨j, by omega, h2⟩

theorem kp_le (p : Pol) {l : List Int} : ∀ i, i ≤ l.length → (kp p l i).length ≤ i := by
  intro i
  induction i with
  | zero => intro _; simp [kp, pk]
  | succ i ih =>
    intro hi
    have := ih (by omega)
    rw [kp_next p (by omega)]
    split
    · rw [List.length_append, List.length_singleton]; omega
    · omega

/-! ### no more than the five numbers together -/

def sum4 (p : Pol) (l : List Int) (i : Nat) : Nat := (spn 0 (p.most 0) (l.take i)).length + (spn 1 (p.most 1) (l.take i)).length + (spn 2 (p.most 2) (l.take i)).length + (spn 3 (p.most 3) (l.take i)).length

theorem spn_grow (r : Nat) (most : Int) {l : List Int} {i : Nat} (hi : i < l.length) : (spn r most (l.take i)).length ≤ (spn r most (l.take (i + 1))).length ∧ (kb r most l i → (spn r most (l.take (i + 1))).length = (spn r most (l.take i)).length + 1) := by
  rw [spn_next r most hi]
  constructor
  · split
    · rw [List.length_append]; omega
    · exact Nat.le_refl _
  · intro h; rw [if_pos h, List.length_append, List.length_singleton]

theorem kp_few (p : Pol) {l : List Int} : ∀ i, i ≤ l.length → ((kp p l i).length : Int) ≤ min (i : Int) (max 0 p.last) + sum4 p l i := by
  intro i
  induction i with
  | zero => intro _; simp [kp, pk, sum4, spn_nil]; omega
  | succ i ih =>
    intro hi
    have h := ih (by omega)
    obtain ⟨a0, b0⟩ := spn_grow 0 (p.most 0) (l := l) (i := i) (by omega)
    obtain ⟨a1, b1⟩ := spn_grow 1 (p.most 1) (l := l) (i := i) (by omega)
    obtain ⟨a2, b2⟩ := spn_grow 2 (p.most 2) (l := l) (i := i) (by omega)
    obtain ⟨a3, b3⟩ := spn_grow 3 (p.most 3) (l := l) (i := i) (by omega)
    unfold sum4 at h ⊢
    rw [kp_next p (by omega)]
    split
    · rename_i hk
      rw [List.length_append, List.length_singleton]
      rcases hk with hk | ⟨r, hr, hk⟩
      · omega
      · have : r = 0 ∨ r = 1 ∨ r = 2 ∨ r = 3 := by omega
        rcases this with rfl | rfl | rfl | rfl
        · have := b0 hk; omega
        · have := b1 hk; omega
        · have := b2 hk; omega
        · have := b3 hk; omega
    · omega

theorem few {p : Pol} (hp : p.Ok) (l : List Int) : ((pk l (kept p l)).length : Int) ≤ p.last + p.days + p.weeks + p.months + p.years := by
  have h := kp_few p (l := l) l.length (Nat.le_refl _)
  rw [kp_all] at h
  have h0 := spn_le 0 (p.most 0) (l := l) l.length (Nat.le_refl _)
  have h1 := spn_le 1 (p.most 1) (l := l) l.length (Nat.le_refl _)
  have h2 := spn_le 2 (p.most 2) (l := l) l.length (Nat.le_refl _)
  have h3 := spn_le 3 (p.most 3) (l := l) l.length (Nat.le_refl _)
  have e0 : p.most 0 = p.days := rfl
  have e1 : p.most 1 = p.weeks := rfl
  have e2 : p.most 2 = p.months := rfl
  have e3 : p.most 3 = p.years := rfl
  unfold sum4 at h
  obtain ⟨q0, q1, q2, q3, q4⟩ := hp
  rw [e0] at h0 h
  rw [e1] at h1 h
  rw [e2] at h2 h
  rw [e3] at h3 h
  omega

theorem kb_first (r : Nat) (most : Int) (l : List Int) : kb r most l 0 ↔ 0 < most := by
  unfold kb
  rw [List.take_zero, spn_nil]
  simp

/-- the newest one is kept, if any number is above 0 -/
theorem first {p : Pol} (hp : p.Ok) (l : List Int) : keeps p l 0 ↔ 0 < p.last + p.days + p.weeks + p.months + p.years := by
  obtain ⟨q0, q1, q2, q3, q4⟩ := hp
  unfold keeps keepTo
  constructor
  · rintro (h | ⟨r, hr, h⟩)
    · omega
    · rw [kb_first] at h
      unfold Pol.most at h
      split at h
      · omega
      · split at h
        · omega
        · split at h <;> omega
  · intro h
    by_cases h0 : 0 < p.last
    · exact .inl (by omega)
    right
    by_cases h1 : 0 < p.days
    · exact ⟨0, by omega, (kb_first _ _ _).2 h1⟩
    by_cases h2 : 0 < p.weeks
    · exact ⟨1, by omega, (kb_first _ _ _).2 h2⟩
    by_cases h3 : 0 < p.months
    · exact ⟨2, by omega, (kb_first _ _ _).2 h3⟩
    · exact ⟨3, by omega, (kb_first _ _ _).2 (show 0 < p.years by omega)⟩

/-! ### what is kept is kept again -/

theorem nodup_le {A B : List Int} (hA : A.Nodup) (h : ∀ x ∈ A, x ∈ B) : A.length ≤ B.length := by
  induction A generalizing B with
  | nil => exact Nat.zero_le _
  | cons a A ih =>
    rw [List.nodup_cons] at hA
    have hb : a ∈ B := h a (by simp)
    have h2 : ∀ x ∈ A, x ∈ B.erase a := fun x hx => (List.mem_erase_of_ne (fun e : x = a => hA.1 (by rw [← e]; exact hx))).2 (h x (List.mem_cons_of_mem _ hx))
    have := ih hA.2 h2
    rw [List.length_erase_of_mem hb] at this
    have := List.length_pos_of_mem hb
    rw [List.length_cons]
    omega

theorem spn_mem (r : Nat) (most : Int) (l : List Int) {s : Int} (h : s ∈ spn r most l) : ∃ t ∈ l, s = sp r t := by
  have := spn_in r most (l := l) l.length (Nat.le_refl _) s (by rw [List.take_length]; exact h)
  obtain ⟨j, h1, h2⟩ := this
  refine ⟨l.getD j 0, ?_, h2⟩
  rw [List.getD_eq_getElem?_getD, List.getElem?_eq_getElem h1]
  exact List.getElem_mem h1

theorem keeps_prefix (p : Pol) (A B : List Int) {i : Nat} (h : i < A.length) : keeps p (A ++ B) i ↔ keeps p A i := by
  have e1 : (A ++ B).take i = A.take i := List.take_append_of_le_length (by omega)
  have e2 : (A ++ B).getD i 0 = A.getD i 0 := by
    rw [List.getD_eq_getElem?_getD, List.getD_eq_getElem?_getD, List.getElem?_append_left h]
  unfold keeps keepTo kb
  rw [e1, e2]

theorem keeps_last (p : Pol) (A : List Int) (x : Int) : keeps p (A ++ [x]) A.length ↔ ((A.length : Int) < p.last ∨ ∃ r, r < 4 ∧ (sp r x ∉ spn r (p.most r) A ∧ ((spn r (p.most r) A).length : Int) < p.most r)) := by
  have e1 : (A ++ [x]).take A.length = A := by simp
  have e2 : (A ++ [x]).getD A.length 0 = x := by simp
  unfold keeps keepTo kb
  rw [e1, e2]

theorem kp_again (p : Pol) {l : List Int} : ∀ i, i ≤ l.length → ∀ j, j < (kp p l i).length → keeps p (kp p l i) j := by
  intro i
  induction i with
  | zero => intro _ j h; simp [kp, pk] at h
  | succ i ih =>
    intro hi j hj
    have hin := kp_in p (l := l) i (by omega)
    have hle := kp_le p (l := l) i (by omega)
    have ih' := ih (by omega)
    rw [kp_next p (by omega)] at hj ⊢
    by_cases hk : keeps p l i
    · rw [if_pos hk] at hj ⊢
      rw [List.length_append, List.length_singleton] at hj
      by_cases e : j < (kp p l i).length
      · rw [keeps_prefix p _ _ e]
        exact ih' j e
      · obtain rfl : j = (kp p l i).length := by omega
        rw [keeps_last]
        rcases hk with hk | ⟨r, hr, h1, h2⟩
        · exact .inl (by omega)
        · refine .inr ⟨r, hr, fun h => ?_, ?_⟩
          · obtain ⟨t, h3, h4⟩ := spn_mem _ _ _ h
            obtain ⟨k, h5, h6⟩ := hin t h3
            rw [h6] at h4
            exact h1 (h4 ▸ spn_full r (p.most r) i (by omega) h2 k h5)
          · have hn : (spn r (p.most r) (kp p l i)).Nodup := by
              have := spn_nodup r (p.most r) (l := kp p l i) _ (Nat.le_refl _)
              rwa [List.take_length] at this
            have := nodup_le hn (B := spn r (p.most r) (l.take i)) fun x hx => by
              obtain ⟨t, h3, h4⟩ := spn_mem _ _ _ hx
              obtain ⟨k, h5, h6⟩ := hin t h3
              rw [h4, h6]
              exact spn_full r (p.most r) i (by omega) h2 k h5
            omega
    · rw [if_neg hk] at hj ⊢
      exact ih' j hj

theorem err_prefix (A B : List Int) {i : Nat} (h : i < A.length) : errAt (A ++ B) i = errAt A i := by
  have e2 : (A ++ B).getD i 0 = A.getD i 0 := by
    rw [List.getD_eq_getElem?_getD, List.getD_eq_getElem?_getD, List.getElem?_append_left h]
  have e3 : (A ++ B).getD (i - 1) 0 = A.getD (i - 1) 0 := by
    rw [List.getD_eq_getElem?_getD, List.getD_eq_getElem?_getD, List.getElem?_append_left (by omega)]
  unfold errAt
  rw [e2, e3]

theorem kp_ok (p : Pol) {l : List Int} (hc : chk l = 0) : ∀ i, i ≤ l.length → ∀ j, j < (kp p l i).length → errAt (kp p l i) j = 0 := by
  have hz := chkTo_zero _ hc
  have hD := chk_desc hc
  intro i
  induction i with
  | zero => intro _ j h; simp [kp, pk] at h
  | succ i ih =>
    intro hi j hj
    have hin := kp_in p (l := l) i (by omega)
    have ih' := ih (by omega)
    rw [kp_next p (by omega)] at hj ⊢
    by_cases hk : keeps p l i
    · rw [if_pos hk] at hj ⊢
      rw [List.length_append, List.length_singleton] at hj
      by_cases e : j < (kp p l i).length
      · rw [err_prefix _ _ e]
        exact ih' j e
      · obtain rfl : j = (kp p l i).length := by omega
        obtain ⟨b1, b2, _⟩ := err_ok (hz i (by omega))
        have e2 : (kp p l i ++ [l.getD i 0]).getD (kp p l i).length 0 = l.getD i 0 := by simp
        unfold errAt
        rw [e2, if_neg (by omega)]
        rw [if_neg]
        rintro ⟨h1, h2⟩
        have e3 : (kp p l i ++ [l.getD i 0]).getD ((kp p l i).length - 1) 0 ∈ kp p l i := by
          rw [List.getD_eq_getElem?_getD, List.getElem?_append_left (by omega), List.getElem?_eq_getElem (by omega)]
          exact List.getElem_mem _
        obtain ⟨k, h3, h4⟩ := hin _ e3
        rw [h4] at h2
        have := hD k i (by omega) (by omega)
        omega
    · rw [if_neg hk] at hj ⊢
      exact ih' j hj

/-- what is kept is kept again -/
theorem again (p : Pol) {l : List Int} (hc : chk l = 0) : chk (pk l (kept p l)) = 0 ∧ (pk l (kept p l)).length ≤ l.length ∧ kept p (pk l (kept p l)) = List.replicate (pk l (kept p l)).length true := by
  have h1 := kp_again p (l := l) l.length (Nat.le_refl _)
  have h2 := kp_ok p hc l.length (Nat.le_refl _)
  have h3 := kp_le p (l := l) l.length (Nat.le_refl _)
  rw [kp_all] at h1 h2 h3
  refine ⟨chkTo_ok _ h2, h3, ?_⟩
  apply List.ext_getElem?
  intro i
  by_cases hi : i < (pk l (kept p l)).length
  · rw [kept_at _ _ hi, List.getElem?_replicate, if_pos hi, decide_eq_true (h1 i hi)]
  · rw [List.getElem?_eq_none (by rw [kept_length]; omega), List.getElem?_replicate, if_neg hi]

theorem pk_true : ∀ (l : List Int), pk l (List.replicate l.length true) = l
  | [] => rfl
  | t :: l => by
    show (if true then t :: pk l (List.replicate l.length true) else _) = t :: l
    rw [pk_true l]
    rfl

/-! ### years -/

theorem years_iff {n : Int} {l : List Int} (hc : chk l = 0) {i : Nat} (hi : i < l.length) : keeps ⟨0, 0, 0, 0, n⟩ l i ↔ (new 3 l i ∧ (chg 3 l i : Int) < n) := by
  rw [← kb_iff (chk_desc hc) hi]
  unfold keeps keepTo
  constructor
  · rintro (h | ⟨r, hr, h⟩)
    · exact absurd h (by show ¬ (i : Int) < 0; omega)
    · have : r = 0 ∨ r = 1 ∨ r = 2 ∨ r = 3 := by omega
      rcases this with rfl | rfl | rfl | rfl
      · have := h.2; exact absurd this (by show ¬ _ < (0 : Int); omega)
      · have := h.2; exact absurd this (by show ¬ _ < (0 : Int); omega)
      · have := h.2; exact absurd this (by show ¬ _ < (0 : Int); omega)
      · exact h
  · exact fun h => .inr ⟨3, by omega, h⟩

end Kp
end Go.Proofs.Ytoibiaikbgkbpaa
