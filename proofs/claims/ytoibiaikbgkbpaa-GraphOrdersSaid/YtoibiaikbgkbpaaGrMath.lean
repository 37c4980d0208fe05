/-
  Plain facts (no Go in here): who is reached, P59, and in what order all are told, P60.
-/
namespace Go.Proofs.Ytoibiaikbgkbpaa
namespace Gr

/-- the kids of a thing -/
def kd (K : List (List Int)) (i : Nat) : List Int := K.getD i []

/-- what is wrong with a list of things, of which there are n -/
def pErr (n : Nat) (l : List Int) : Int := if 64 < l.length then 2 else if ∀ k ∈ l, 0 ≤ k ∧ k < (n : Int) then 0 else 1
def gErrTo (K : List (List Int)) : Nat → Int
  | 0 => 0
  | i + 1 => if gErrTo K i ≠ 0 then gErrTo K i else pErr K.length (kd K i)
def gErr (K : List (List Int)) : Int := if 200 < K.length then 2 else gErrTo K K.length

/-- lists that are right -/
structure Ok (K : List (List Int)) : Prop where
  few : K.length ≤ 200
  kids : ∀ i, i < K.length → (kd K i).length ≤ 64 ∧ ∀ k ∈ kd K i, 0 ≤ k ∧ k < (K.length : Int)

theorem pErr_ok {n : Nat} {l : List Int} (h : pErr n l = 0) : l.length ≤ 64 ∧ ∀ k ∈ l, 0 ≤ k ∧ k < (n : Int) := by
  unfold pErr at h
  split at h
  · omega
  · split at h
    · rename_i a b; exact ⟨by omega, b⟩
    · omega

theorem gErrTo_zero {K : List (List Int)} : ∀ i, gErrTo K i = 0 → ∀ j, j < i → pErr K.length (kd K j) = 0
  | 0, _, _, h => by omega
  | i + 1, h, j, hj => by
    rw [gErrTo] at h
    by_cases q : gErrTo K i = 0
    · rw [q, if_neg (by simp)] at h
      by_cases e : j = i
      · subst e; exact h
      · exact gErrTo_zero i q j (by omega)
    · rw [if_pos q] at h; exact absurd h q

theorem gErrTo_ok {K : List (List Int)} : ∀ i, (∀ j, j < i → pErr K.length (kd K j) = 0) → gErrTo K i = 0
  | 0, _ => rfl
  | i + 1, h => by rw [gErrTo, gErrTo_ok i (fun j hj => h j (by omega)), if_neg (by simp), h i (by omega)]

theorem gErrTo_first {K : List (List Int)} {i : Nat} (h : ∀ j, j < i → pErr K.length (kd K j) = 0) (he : pErr K.length (kd K i) ≠ 0) : ∀ k, i < k → gErrTo K k = pErr K.length (kd K i) := by
  intro k
  induction k with
  | zero => intro h; omega
  | succ k ih =>
    intro hk
    rw [gErrTo]
    by_cases e : i = k
    · subst e; rw [gErrTo_ok i h, if_neg (by simp)]
    · rw [ih (by omega), if_pos he]

theorem gErr_ok {K : List (List Int)} (h : gErr K = 0) : Ok K := by
  unfold gErr at h
  split at h
  · omega
  · exact ⟨by omega, fun i hi => pErr_ok (gErrTo_zero _ h i hi)⟩

/-! ### who is reached -/

/-- a set that has the roots, and with each thing its kids -/
structure Cl (K : List (List Int)) (R : List Int) (S : Nat → Prop) : Prop where
  roots : ∀ k ∈ R, S k.toNat
  kids : ∀ i, S i → ∀ k ∈ kd K i, S k.toNat

/-- a thing that each such set has -/
def Rc (K : List (List Int)) (R : List Int) (i : Nat) : Prop := ∀ S, Cl K R S → S i

theorem rc_cl (K : List (List Int)) (R : List Int) : Cl K R (Rc K R) :=
  ⟨fun k hk _ h => h.roots k hk, fun i hi k hk S h => h.kids i (hi S h) k hk⟩

theorem rc_least {K : List (List Int)} {R : List Int} {S : Nat → Prop} (h : Cl K R S) {i : Nat} (hi : Rc K R i) : S i := hi S h

/-- of roots together what is reached of each -/
theorem rc_joins (K : List (List Int)) (A B : List Int) (i : Nat) : Rc K (A ++ B) i ↔ (Rc K A i ∨ Rc K B i) := by
  constructor
  · intro h
    refine h (fun j => Rc K A j ∨ Rc K B j) ⟨fun k hk => ?_, fun j hj k hk => ?_⟩
    · rcases List.mem_append.1 hk with hk | hk
      · exact .inl ((rc_cl K A).roots k hk)
      · exact .inr ((rc_cl K B).roots k hk)
    · rcases hj with hj | hj
      · exact .inl ((rc_cl K A).kids j hj k hk)
      · exact .inr ((rc_cl K B).kids j hj k hk)
  · rintro (h | h)
    · exact h _ ⟨fun k hk => (rc_cl K (A ++ B)).roots k (List.mem_append_left _ hk), (rc_cl K (A ++ B)).kids⟩
    · exact h _ ⟨fun k hk => (rc_cl K (A ++ B)).roots k (List.mem_append_right _ hk), (rc_cl K (A ++ B)).kids⟩

/-- who is reached reaches no more -/
theorem rc_more {K : List (List Int)} {A : List Int} {i : Nat} (hi : Rc K A i) {j : Nat} (h : Rc K [(i : Int)] j) : Rc K A j := by
  refine h _ ⟨fun k hk => ?_, (rc_cl K A).kids⟩
  rw [List.mem_singleton.1 hk, Int.toNat_natCast]
  exact hi

/-! ### round by round -/

def up (f : Nat → Bool) (k : Nat) : Nat → Bool := fun i => if i = k then true else f i

/-- thing i's first m kids are looked at -/
def rk (i : Nat) (l : List Int) : Nat → (Nat → Bool) → Nat → Bool
  | 0, f => f
  | m + 1, f => if rk i l m f i then up (rk i l m f) (l.getD m 0).toNat else rk i l m f
/-- the first i things' -/
def ri (K : List (List Int)) : Nat → (Nat → Bool) → Nat → Bool
  | 0, f => f
  | i + 1, f => rk i (kd K i) (kd K i).length (ri K i f)
/-- j rounds -/
def rj (K : List (List Int)) : Nat → (Nat → Bool) → Nat → Bool
  | 0, f => f
  | j + 1, f => ri K K.length (rj K j f)

theorem up_mono (f : Nat → Bool) (k i : Nat) (h : f i = true) : up f k i = true := by unfold up; split <;> first | rfl | exact h
theorem rk_mono (i : Nat) (l : List Int) : ∀ (m : Nat) (f : Nat → Bool) (j : Nat), f j = true → rk i l m f j = true
  | 0, _, _, h => h
  | m + 1, f, j, h => by
    rw [rk]
    split
    · exact up_mono _ _ _ (rk_mono i l m f j h)
    · exact rk_mono i l m f j h
theorem ri_mono (K : List (List Int)) : ∀ (i : Nat) (f : Nat → Bool) (j : Nat), f j = true → ri K i f j = true
  | 0, _, _, h => h
  | i + 1, f, j, h => rk_mono _ _ _ _ _ (ri_mono K i f j h)

/-- what is so marked is reached -/
theorem rk_sound {K : List (List Int)} {S : Nat → Prop} {R : List Int} (hS : Cl K R S) (i : Nat) : ∀ (m : Nat) (f : Nat → Bool), m ≤ (kd K i).length → (∀ j, f j = true → S j) → ∀ j, rk i (kd K i) m f j = true → S j
  | 0, _, _, h, j, hj => h j hj
  | m + 1, f, hm, h, j, hj => by
    have ih := rk_sound hS i m f (by omega) h
    rw [rk] at hj
    split at hj
    · rename_i hi
      unfold up at hj
      split at hj
      · rename_i e
        rw [e]
        refine hS.kids i (ih i hi) _ ?_
        rw [List.getD_eq_getElem?_getD, List.getElem?_eq_getElem (by omega)]
        exact List.getElem_mem _
      · exact ih j hj
    · exact ih j hj
theorem ri_sound {K : List (List Int)} {S : Nat → Prop} {R : List Int} (hS : Cl K R S) : ∀ (i : Nat) (f : Nat → Bool), (∀ j, f j = true → S j) → ∀ j, ri K i f j = true → S j
  | 0, _, h, j, hj => h j hj
  | i + 1, f, h, j, hj => rk_sound hS i _ _ (Nat.le_refl _) (ri_sound hS i f h) j hj
theorem rj_sound {K : List (List Int)} {S : Nat → Prop} {R : List Int} (hS : Cl K R S) : ∀ (j : Nat) (f : Nat → Bool), (∀ i, f i = true → S i) → ∀ i, rj K j f i = true → S i
  | 0, _, h, i, hi => h i hi
  | j + 1, f, h, i, hi => ri_sound hS _ _ (rj_sound hS j f h) i hi

/-- a round marks the kids of all that were marked ahead of it -/
theorem rk_kids (i : Nat) (l : List Int) : ∀ (m : Nat) (f : Nat → Bool), f i = true → ∀ j, j < m → rk i l m f (l.getD j 0).toNat = true
  | 0, _, _, _, h => by omega
  | m + 1, f, h, j, hj => by
    rw [rk, if_pos (rk_mono i l m f i h)]
    by_cases e : j = m
    · subst e; unfold up; rw [if_pos rfl]
    · exact up_mono _ _ _ (rk_kids i l m f h j (by omega))
theorem ri_kids (K : List (List Int)) (f : Nat → Bool) (i : Nat) (h : f i = true) : ∀ n, i < n → ∀ k ∈ kd K i, ri K n f k.toNat = true := by
  intro n
  induction n with
  | zero => intro h; omega
  | succ n ih =>
    intro hi k hk
    rw [ri]
    by_cases e : i = n
    · subst e
      obtain ⟨j, hj, rfl⟩ := List.getElem_of_mem hk
      have := rk_kids i (kd K i) (kd K i).length (ri K i f) (ri_mono K i f i h) j hj
      rwa [List.getD_eq_getElem?_getD, List.getElem?_eq_getElem hj] at this
    · exact rk_mono _ _ _ _ _ (ih (by omega) k hk)

/-- how many of the first n are marked -/
def cnt (f : Nat → Bool) : Nat → Nat
  | 0 => 0
  | n + 1 => if f n then cnt f n + 1 else cnt f n
theorem cnt_le (f : Nat → Bool) : ∀ n, cnt f n ≤ n
  | 0 => Nat.le_refl _
  | n + 1 => by rw [cnt]; have := cnt_le f n; split <;> omega
theorem cnt_all {f : Nat → Bool} : ∀ n, cnt f n = n → ∀ i, i < n → f i = true
  | 0, _, _, h => by omega
  | n + 1, h, i, hi => by
    rw [cnt] at h
    have := cnt_le f n
    split at h
    · rename_i hf
      by_cases e : i = n
      · subst e; exact hf
      · exact cnt_all n (by omega) i (by omega)
    · omega
theorem cnt_mono {f g : Nat → Bool} (h : ∀ i, f i = true → g i = true) : ∀ n, cnt f n ≤ cnt g n
  | 0 => Nat.le_refl _
  | n + 1 => by
    have := cnt_mono h n
    rw [cnt, cnt]
    by_cases e : f n = true
    · rw [if_pos e, if_pos (h n e)]; omega
    · rw [if_neg e]; split <;> omega
theorem cnt_more {f g : Nat → Bool} (h : ∀ i, f i = true → g i = true) {k : Nat} (hf : f k = false) (hg : g k = true) : ∀ n, k < n → cnt f n < cnt g n
  | 0, hk => by omega
  | n + 1, hk => by
    have := cnt_mono h n
    rw [cnt, cnt]
    by_cases e : k = n
    · subst e; rw [if_neg (by rw [hf]; simp), if_pos hg]; omega
    · have := cnt_more h hf hg n (by omega)
      by_cases e : f n = true
      · rw [if_pos e, if_pos (h n e)]; omega
      · rw [if_neg e]; split <;> omega

/-- the kids of what is marked are marked -/
def Shut (K : List (List Int)) (f : Nat → Bool) : Prop := ∀ i, i < K.length → f i = true → ∀ k ∈ kd K i, f k.toNat = true

theorem rk_same {i : Nat} {l : List Int} {f : Nat → Bool} (h : f i = true → ∀ k ∈ l, f k.toNat = true) : ∀ m, m ≤ l.length → rk i l m f = f
  | 0, _ => rfl
  | m + 1, hm => by
    rw [rk, rk_same h m (by omega)]
    split
    · rename_i hi
      funext j
      unfold up
      split
      · rename_i e
        rw [e]
        refine (h hi _ ?_).symm
        rw [List.getD_eq_getElem?_getD, List.getElem?_eq_getElem (by omega)]
        exact List.getElem_mem _
      · rfl
    · rfl
theorem ri_same {K : List (List Int)} {f : Nat → Bool} (h : Shut K f) : ∀ i, i ≤ K.length → ri K i f = f
  | 0, _ => rfl
  | i + 1, hi => by
    rw [ri, ri_same h i (by omega)]
    exact rk_same (fun e => h i (by omega) e) _ (Nat.le_refl _)

theorem shut_or {K : List (List Int)} (hK : Ok K) (f : Nat → Bool) : Shut K f ∨ cnt f K.length < cnt (ri K K.length f) K.length := by
  by_cases h : Shut K f
  · exact .inl h
  · right
    have : ∃ i k, i < K.length ∧ f i = true ∧ k ∈ kd K i ∧ f k.toNat = false := by
      refine Classical.byContradiction fun q => h fun i hi e k hk => ?_
      refine Decidable.byContradiction fun x => q ⟨i, k, hi, e, hk, by simpa using x⟩
    obtain ⟨i, k, hi, e, hk, hx⟩ := this
    have hb := (hK.kids i hi).2 k hk
    exact cnt_more (ri_mono K _ f) hx (ri_kids K f i e _ hi k hk) _ (by omega)

theorem rj_shut {K : List (List Int)} (hK : Ok K) (f : Nat → Bool) : ∀ j, Shut K (rj K j f) ∨ j ≤ cnt (rj K j f) K.length := by
  intro j
  induction j with
  | zero => exact .inr (Nat.zero_le _)
  | succ j ih =>
    rcases ih with h | h
    · left
      rw [rj, ri_same h _ (Nat.le_refl _)]
      exact h
    · rcases shut_or hK (rj K j f) with q | q
      · left
        rw [rj, ri_same q _ (Nat.le_refl _)]
        exact q
      · right
        rw [rj]
        omega

/-- the roots -/
def rt (R : List Int) : Nat → Bool := fun i => decide ((i : Int) ∈ R)

/-- round by round all that is reached is marked, and no more -/
theorem rj_rc {K : List (List Int)} (hK : Ok K) {R : List Int} (hR : ∀ k ∈ R, 0 ≤ k ∧ k < (K.length : Int)) {i : Nat} (hi : i < K.length) : rj K K.length (rt R) i = true ↔ Rc K R i := by
  have hrt : ∀ j, rt R j = true → Rc K R j := fun j hj => by
    have := (rc_cl K R).roots (j : Int) (of_decide_eq_true hj)
    rwa [Int.toNat_natCast] at this
  constructor
  · exact rj_sound (rc_cl K R) _ _ hrt i
  · intro h
    have hsh : Shut K (rj K K.length (rt R)) := by
      rcases rj_shut hK (rt R) K.length with q | q
      · exact q
      · intro a ha e k hk
        have hall := cnt_all (f := rj K K.length (rt R)) K.length (by have := cnt_le (rj K K.length (rt R)) K.length; omega)
        have hb := (hK.kids a ha).2 k hk
        exact hall k.toNat (by omega)
    have hmono : ∀ j i, rt R i = true → rj K j (rt R) i = true := by
      intro j
      induction j with
      | zero => exact fun _ h => h
      | succ j ih => exact fun i h => ri_mono K _ _ i (ih i h)
    have := rc_least (S := fun j => j < K.length ∧ rj K K.length (rt R) j = true) ⟨fun k hk => ?_, fun a ha k hk => ?_⟩ h
    · exact this.2
    · have hb := hR k hk
      refine ⟨by omega, hmono _ _ (decide_eq_true ?_)⟩
      rw [Int.toNat_of_nonneg hb.1]
      exact hk
    · have hb := (hK.kids a ha.1).2 k hk
      exact ⟨by omega, hsh a ha.1 ha.2 k hk⟩

/-- of each thing: is it reached? -/
def rch (K : List (List Int)) (R : List Int) : List Bool := (List.range K.length).map (rj K K.length (rt R))
theorem rch_length (K : List (List Int)) (R : List Int) : (rch K R).length = K.length := by simp [rch]
theorem rch_at (K : List (List Int)) (R : List Int) {i : Nat} (h : i < K.length) : (rch K R)[i]? = some (rj K K.length (rt R) i) := by simp [rch, h]

def rErr (K : List (List Int)) (R : List Int) : Int := if gErr K ≠ 0 then gErr K else pErr K.length R
def reach (K : List (List Int)) (R : List Int) : List Bool := if rErr K R = 0 then rch K R else []

theorem rErr_ok {K : List (List Int)} {R : List Int} (h : rErr K R = 0) : Ok K ∧ R.length ≤ 64 ∧ ∀ k ∈ R, 0 ≤ k ∧ k < (K.length : Int) := by
  unfold rErr at h
  by_cases q : gErr K = 0
  · rw [q, if_neg (by simp)] at h
    exact ⟨gErr_ok q, pErr_ok h⟩
  · rw [if_pos q] at h; exact absurd h q

/-! ### in what order -/

/-- may a thing be told next? -/
def Rdy (K : List (List Int)) (out : List Int) (i : Nat) : Prop := (i : Int) ∉ out ∧ ∀ x ∈ kd K i, x ∈ out
instance (K : List (List Int)) (out : List Int) (i : Nat) : Decidable (Rdy K out i) := by unfold Rdy; infer_instance

/-- the first of those that may -/
def nxtTo (K : List (List Int)) (out : List Int) : Nat → Int
  | 0 => -1
  | i + 1 => if 0 ≤ nxtTo K out i then nxtTo K out i else if Rdy K out i then i else -1
def nxt (K : List (List Int)) (out : List Int) : Int := nxtTo K out K.length

theorem nxtTo_none {K : List (List Int)} {out : List Int} : ∀ n, (∀ i, i < n → ¬ Rdy K out i) → nxtTo K out n = -1
  | 0, _ => rfl
  | n + 1, h => by rw [nxtTo, nxtTo_none n (fun i hi => h i (by omega)), if_neg (by omega), if_neg (h n (by omega))]
theorem nxtTo_first {K : List (List Int)} {out : List Int} {i : Nat} (h : ∀ j, j < i → ¬ Rdy K out j) (hi : Rdy K out i) : ∀ n, i < n → nxtTo K out n = i := by
  intro n
  induction n with
  | zero => intro h; omega
  | succ n ih =>
    intro hn
    rw [nxtTo]
    by_cases e : i = n
    · subst e; rw [nxtTo_none i h, if_neg (by omega), if_pos hi]
    · rw [ih (by omega), if_pos (by omega)]
theorem nxtTo_spec {K : List (List Int)} {out : List Int} : ∀ n, (nxtTo K out n = -1 ∧ ∀ i, i < n → ¬ Rdy K out i) ∨ ∃ i, i < n ∧ nxtTo K out n = i ∧ Rdy K out i ∧ ∀ j, j < i → ¬ Rdy K out j
  | 0 => .inl ⟨rfl, fun i h => by omega⟩
  | n + 1 => by
    rcases nxtTo_spec (K := K) (out := out) n with ⟨h1, h2⟩ | ⟨i, h1, h2, h3, h4⟩
    · by_cases e : Rdy K out n
      · exact .inr ⟨n, by omega, nxtTo_first h2 e _ (by omega), e, h2⟩
      · exact .inl ⟨nxtTo_none _ (fun i hi => by
          by_cases q : i = n
          · subst q; exact e
          · exact h2 i (by omega)), fun i hi => by
          by_cases q : i = n
          · subst q; exact e
          · exact h2 i (by omega)⟩
    · exact .inr ⟨i, by omega, nxtTo_first h4 h3 _ (by omega), h3, h4⟩

/-- the first j that are told; none, if at some moment there is none -/
def ordTo (K : List (List Int)) : Nat → Option (List Int)
  | 0 => some []
  | j + 1 => match ordTo K j with
    | none => none
    | some out => if 0 ≤ nxt K out then some (out ++ [nxt K out]) else none
def oErr (K : List (List Int)) : Int := if gErr K ≠ 0 then gErr K else if ordTo K K.length = none then 4 else 0
def order (K : List (List Int)) : List Int := if gErr K ≠ 0 then [] else (ordTo K K.length).getD []

/-- what is told so far: each once, behind its kids -/
structure Told (K : List (List Int)) (j : Nat) (out : List Int) : Prop where
  len : out.length = j
  once : out.Nodup
  in_ : ∀ x ∈ out, 0 ≤ x ∧ x < (K.length : Int)
  kids : ∀ p (hp : p < out.length), ∀ x ∈ kd K out[p].toNat, x ∈ out.take p

theorem ordTo_told {K : List (List Int)} : ∀ j out, ordTo K j = some out → Told K j out := by
  intro j
  induction j with
  | zero =>
    intro out h
    cases h
    exact ⟨rfl, List.nodup_nil, fun x h => absurd h (by simp), fun p hp => absurd hp (by simp)⟩
  | succ j ih =>
    intro out h
    rw [ordTo] at h
    cases hj : ordTo K j with
    | none => rw [hj] at h; cases h
    | some o =>
      rw [hj] at h
      have t := ih o hj
      dsimp only at h
      split at h
      · rename_i h0
        cases h
        rcases nxtTo_spec (K := K) (out := o) K.length with ⟨h1, _⟩ | ⟨i, h1, h2, h3, _⟩
        · unfold nxt at h0; omega
        · have e : nxt K o = (i : Int) := h2
          rw [e]
          refine ⟨by rw [List.length_append, t.len]; rfl, ?_, ?_, ?_⟩
          · refine List.nodup_append.2 ⟨t.once, by simp, fun a ha b hb q => ?_⟩
            rw [List.mem_singleton.1 hb] at q
            exact h3.1 (q ▸ ha)
          · intro x hx
            rcases List.mem_append.1 hx with hx | hx
            · exact t.in_ x hx
            · rw [List.mem_singleton.1 hx]; omega
          · intro p hp x hx
            by_cases q : p < o.length
            · rw [List.getElem_append_left q] at hx
              rw [List.take_append_of_le_length (by omega)]
              exact t.kids p q x hx
            · have q' : p = o.length := by rw [List.length_append, List.length_singleton] at hp; omega
              subst q'
              rw [List.take_append_of_le_length (Nat.le_refl _), List.take_length]
              rw [List.getElem_append_right (Nat.le_refl _)] at hx
              simp only [Nat.sub_self, List.getElem_singleton, Int.toNat_natCast] at hx
              exact h3.2 x hx
      · cases h

theorem order_told {K : List (List Int)} (h : oErr K = 0) : Ok K ∧ Told K K.length (order K) := by
  unfold oErr at h
  by_cases q : gErr K = 0
  · rw [q, if_neg (by simp)] at h
    refine ⟨gErr_ok q, ?_⟩
    cases ho : ordTo K K.length with
    | none => rw [ho, if_pos rfl] at h; omega
    | some out =>
      have : order K = out := by unfold order; rw [q, if_neg (by simp), ho]; rfl
      rw [this]
      exact ordTo_told _ _ ho
  · rw [if_pos q] at h; exact absurd h q

end Gr
end Go.Proofs.Ytoibiaikbgkbpaa
