/-
  Plain facts (no Go in here): the equations of the lost parts: their leading squares have the kernel 0, and the parts that come out have the first n shards that are there.
-/
import Derived.Test.YtoeohnknpbdgdaaDoorShSolve
namespace Go.Proofs.YtoeohnknpbdgdaaDoor
namespace Fd
open Rl (xor4)

theorem getD_left {l t : List Nat} {k : Nat} (h : k < l.length) : (l ++ t).getD k 0 = l.getD k 0 := by
  rw [List.getD_eq_getElem?_getD, List.getD_eq_getElem?_getD, List.getElem?_append_left h]
theorem getD_right {l t : List Nat} {k : Nat} (h : l.length ≤ k) : (l ++ t).getD k 0 = t.getD (k - l.length) 0 := by
  rw [List.getD_eq_getElem?_getD, List.getD_eq_getElem?_getD, List.getElem?_append_right h]
/-- what part i is multiplied by in guard j -/
def wt (j i : Nat) : Nat := inv ((128 + j) ^^^ i)
theorem wt_lt {j i : Nat} (hj : j < 128) (hi : i < 128) : wt j i < 256 := inv_lt (xor_lt8 (by omega) (by omega))
/-- how many of the first i are there, and how many aren't -/
def cnt (T : Nat → Bool) : Nat → Nat
  | 0 => 0
  | i + 1 => cnt T i + if T i then 1 else 0
def lostN (T : Nat → Bool) : Nat → Nat
  | 0 => 0
  | i + 1 => lostN T i + if T i then 0 else 1
theorem cnt_lost (T : Nat → Bool) : ∀ i, cnt T i + lostN T i = i
  | 0 => rfl
  | i + 1 => by
    have := cnt_lost T i
    rw [cnt, lostN]
    cases T i
    · simp; omega
    · simp; omega
theorem cnt_mono (T : Nat → Bool) (i : Nat) : ∀ d, cnt T i ≤ cnt T (i + d)
  | 0 => Nat.le_refl _
  | d + 1 => by have := cnt_mono T i d; rw [← Nat.add_assoc, cnt]; omega
theorem cnt_mono' (T : Nat → Bool) {i j : Nat} (h : i ≤ j) : cnt T i ≤ cnt T j := by
  obtain ⟨d, rfl⟩ := Nat.exists_eq_add_of_le h
  exact cnt_mono T i d
theorem lost_mono (T : Nat → Bool) (i : Nat) : ∀ d, lostN T i ≤ lostN T (i + d)
  | 0 => Nat.le_refl _
  | d + 1 => by have := lost_mono T i d; rw [← Nat.add_assoc, lostN]; omega
theorem lost_mono' (T : Nat → Bool) {i j : Nat} (h : i ≤ j) : lostN T i ≤ lostN T j := by
  obtain ⟨d, rfl⟩ := Nat.exists_eq_add_of_le h
  exact lost_mono T i d
theorem lost_lt {T : Nat → Bool} {i n : Nat} (hi : i < n) (hT : T i = false) : lostN T i < lostN T n := by
  have := lost_mono' T (i := i + 1) (j := n) (by omega)
  rw [lostN, hT] at this
  simp at this
  omega
/-- the weights and the bytes of guard j's equation, up to part i -/
def eqW (T : Nat → Bool) (j : Nat) : Nat → List Nat
  | 0 => []
  | i + 1 => if T i then eqW T j i else eqW T j i ++ [wt j i]
def eqB (T : Nat → Bool) (X : Nat → List Nat) (j : Nat) (g : List Nat) : Nat → List Nat
  | 0 => g
  | i + 1 => if T i then addL (eqB T X j g i) (X i) (wt j i) else eqB T X j g i
theorem eqW_length (T : Nat → Bool) (j : Nat) : ∀ i, (eqW T j i).length = lostN T i
  | 0 => rfl
  | i + 1 => by
    rw [eqW, lostN]
    cases T i
    · simp [eqW_length T j i]
    · simp [eqW_length T j i]
theorem eqW_bs (T : Nat → Bool) {j : Nat} (hj : j < 128) : ∀ i, i ≤ 128 → Bs (eqW T j i)
  | 0, _ => fun c hc => by cases hc
  | i + 1, hi => by
    rw [eqW]
    split
    · exact eqW_bs T hj i (by omega)
    · intro c hc
      rcases List.mem_append.mp hc with hc | hc
      · exact eqW_bs T hj i (by omega) c hc
      · rw [List.mem_singleton.mp hc]; exact wt_lt hj (by omega)
theorem eqB_length {T : Nat → Bool} {X : Nat → List Nat} {j m : Nat} {g : List Nat} (hg : g.length = m) : ∀ i, (∀ q, q < i → T q = true → (X q).length = m) → (eqB T X j g i).length = m
  | 0, _ => hg
  | i + 1, h => by
    have ih := eqB_length (T := T) (X := X) (j := j) hg i (fun q hq => h q (by omega))
    rw [eqB]
    split
    · next ht => rw [addL_length (by rw [ih, h i (by omega) ht])]; exact ih
    · exact ih
theorem eqB_bs {T : Nat → Bool} {X : Nat → List Nat} {j : Nat} {g : List Nat} (hg : Bs g) : ∀ i, (∀ q, q < i → T q = true → Bs (X q)) → Bs (eqB T X j g i)
  | 0, _ => hg
  | i + 1, h => by
    have ih := eqB_bs (T := T) (X := X) (j := j) hg i (fun q hq => h q (by omega))
    rw [eqB]
    split
    · next ht => exact addL_bs ih (h i (by omega) ht) _
    · exact ih
/-- which guards are taken, out of the first q -/
def took (T : Nat → Bool) (n L : Nat) : Nat → List Nat
  | 0 => []
  | q + 1 => if (took T n L q).length = L then took T n L q else if T (n + q) then took T n L q ++ [q] else took T n L q
theorem took_length (T : Nat → Bool) (n L : Nat) : ∀ q, (took T n L q).length = min L (cnt T (n + q) - cnt T n)
  | 0 => by show 0 = _; rw [Nat.add_zero]; omega
  | q + 1 => by
    have ih := took_length T n L q
    have hm := cnt_mono T n q
    rw [took, ← Nat.add_assoc, cnt]
    split
    · omega
    · split
      · next h => rw [List.length_append, List.length_singleton, ih]; omega
      · next h => rw [ih]; simp
theorem took_le (T : Nat → Bool) (n L q : Nat) : (took T n L q).length ≤ L := by rw [took_length]; omega
theorem took_front (T : Nat → Bool) (n L q : Nat) : ∀ d, ∃ t, took T n L (q + d) = took T n L q ++ t
  | 0 => ⟨[], (List.append_nil _).symm⟩
  | d + 1 => by
    obtain ⟨t, ht⟩ := took_front T n L q d
    rw [← Nat.add_assoc, took]
    split
    · exact ⟨t, ht⟩
    · split
      · exact ⟨t ++ [q + d], by rw [ht, List.append_assoc]⟩
      · exact ⟨t, ht⟩
/-- who is taken is there, and in order -/
theorem took_mem (T : Nat → Bool) (n L : Nat) : ∀ q, ∀ r, r < (took T n L q).length → (took T n L q).getD r 0 < q ∧ T (n + (took T n L q).getD r 0) = true ∧ cnt T (n + (took T n L q).getD r 0) = cnt T n + r
  | 0, r, hr => by simp [took] at hr
  | q + 1, r, hr => by
    have hl := took_length T n L q
    have hm := cnt_mono T n q
    rw [took] at hr ⊢
    split at hr
    · next h => rw [if_pos h]; have := took_mem T n L q r hr; exact ⟨by omega, this.2⟩
    · next h =>
      rw [if_neg h]
      split at hr
      · next ht =>
        rw [if_pos ht]
        rw [List.length_append, List.length_singleton] at hr
        by_cases hlt : r < (took T n L q).length
        · have := took_mem T n L q r hlt
          rw [getD_left hlt]
          exact ⟨by omega, this.2⟩
        · obtain rfl : r = (took T n L q).length := by omega
          rw [getD_right (by omega), Nat.sub_self]
          show q < q + 1 ∧ T (n + q) = true ∧ cnt T (n + q) = _
          exact ⟨by omega, ht, by omega⟩
      · next ht => rw [if_neg ht]; have := took_mem T n L q r hr; exact ⟨by omega, this.2⟩
/-- the first that are there are taken -/
theorem took_get {T : Nat → Bool} {n p j : Nat} (hj : j < p) (ht : T (n + j) = true) (hc : cnt T (n + j) < n) :
    cnt T (n + j) - cnt T n < (took T n (lostN T n) p).length ∧ (took T n (lostN T n) p).getD (cnt T (n + j) - cnt T n) 0 = j := by
  have h1 := took_length T n (lostN T n) j
  have hcl := cnt_lost T n
  have hm := cnt_mono T n j
  have h2 : took T n (lostN T n) (j + 1) = took T n (lostN T n) j ++ [j] := by
    rw [took, if_neg (by omega), if_pos ht]
  obtain ⟨t, h3⟩ := took_front T n (lostN T n) (j + 1) (p - (j + 1))
  rw [show j + 1 + (p - (j + 1)) = p from by omega, h2] at h3
  have hl : (took T n (lostN T n) j).length = cnt T (n + j) - cnt T n := by omega
  rw [h3, List.append_assoc]
  refine ⟨by simp [hl], ?_⟩
  rw [getD_right (by omega), hl, Nat.sub_self]
  rfl
theorem took_all {T : Nat → Bool} {n p : Nat} (h : n ≤ cnt T (n + p)) : (took T n (lostN T n) p).length = lostN T n := by
  have := cnt_lost T n
  rw [took_length]
  omega
/-- the equations -/
def eqn (T : Nat → Bool) (X : Nat → List Nat) (n j : Nat) : Eqn := (eqW T j n, eqB T X j (X (n + j)) n)
def eqs (T : Nat → Bool) (X : Nat → List Nat) (n p : Nat) : Nat → Eqn := fun r => eqn T X n ((took T n (lostN T n) p).getD r 0)
/-- the parts -/
def part (T : Nat → Bool) (X : Nat → List Nat) (n p i : Nat) : List Nat := if T i then X i else (solved (eqs T X n p) (lostN T n) (lostN T n) (lostN T i)).2
/-- l[i] of the weights is the weight of the lost part number i -/
theorem eqW_get (T : Nat → Bool) (j : Nat) {i : Nat} (hi : T i = false) : ∀ n, i < n → (eqW T j n).getD (lostN T i) 0 = wt j i
  | 0, h => by omega
  | n + 1, h => by
    by_cases e : i = n
    · subst e
      rw [eqW, hi]
      simp only [Bool.false_eq_true, if_false]
      rw [getD_right (by rw [eqW_length]; omega), eqW_length, Nat.sub_self]
      rfl
    · have ih := eqW_get T j hi n (by omega)
      rw [eqW]
      split
      · exact ih
      · rw [getD_left (by rw [eqW_length]; exact lost_lt (by omega) hi)]
        exact ih
/-- a sum over all parts is one over those that are there and one over the others -/
theorem sm_split (T : Nat → Bool) (f v : Nat → Nat) (j : Nat) (hv : ∀ i, T i = false → f i = v (lostN T i)) : ∀ n,
    sm (fun i => M (wt j i) (f i)) n = sm (fun i => if T i then M (wt j i) (f i) else 0) n ^^^ sm (fun c => M ((eqW T j n).getD c 0) (v c)) (lostN T n)
  | 0 => (Nat.xor_self 0).symm
  | n + 1 => by
    have ih := sm_split T f v j hv n
    rw [sm, sm, ih, lostN, eqW]
    cases ht : T n
    · simp only [Bool.false_eq_true, if_false, Nat.xor_zero]
      rw [sm, getD_right (by rw [eqW_length]; omega), eqW_length, Nat.sub_self]
      have e : sm (fun c => M ((eqW T j n ++ [wt j n]).getD c 0) (v c)) (lostN T n) = sm (fun c => M ((eqW T j n).getD c 0) (v c)) (lostN T n) :=
        sm_congr fun c hc => by rw [getD_left (by rw [eqW_length]; exact hc)]
      rw [e, Nat.xor_assoc, hv n ht]
      rfl
    · simp only [if_true, Nat.add_zero]
      rw [Nat.xor_assoc, Nat.xor_assoc, Nat.xor_comm (M (wt j n) (f n))]
theorem eqB_get {T : Nat → Bool} {X : Nat → List Nat} {j m : Nat} {g : List Nat} (hj : j < 128) (hg : g.length = m) (a : Nat) : ∀ i, i ≤ 128 → (∀ q, q < i → T q = true → (X q).length = m) → (∀ q, q < i → T q = true → Bs (X q)) →
    (eqB T X j g i).getD a 0 = g.getD a 0 ^^^ sm (fun i => if T i then M (wt j i) ((X i).getD a 0) else 0) i
  | 0, _, _, _ => (Nat.xor_zero _).symm
  | i + 1, hi, h, hb => by
    have ih := eqB_get (T := T) (X := X) hj hg a i (by omega) (fun q hq => h q (by omega)) (fun q hq => hb q (by omega))
    have hl := eqB_length (T := T) (X := X) (j := j) hg i (fun q hq => h q (by omega))
    rw [eqB, sm]
    cases ht : T i
    · simp only [Bool.false_eq_true, if_false, Nat.xor_zero]
      exact ih
    · simp only [if_true]
      rw [addL_get (by rw [hl, h i (by omega) ht]), ih, Nat.xor_assoc, M_comm (get_lt (hb i (by omega) ht) a) (wt_lt hj (by omega))]

theorem eqs_shape {T : Nat → Bool} {X : Nat → List Nat} {n p m : Nat} (hn : n ≤ 128) (hp : p ≤ 128) (hm : n ≤ cnt T (n + p))
    (hX : ∀ i, i < n + p → T i = true → (X i).length = m) (hB : ∀ i, i < n + p → T i = true → Bs (X i)) : Shape (eqs T X n p) (lostN T n) m := by
  have hl := took_all hm
  have hmem := fun r (hr : r < lostN T n) => took_mem T n (lostN T n) p r (by omega)
  refine ⟨fun r hr => eqW_length T _ n, fun r hr => ?_, fun r hr => ?_, fun r hr => ?_⟩
  · have := hmem r hr
    exact eqB_length (hX _ (by omega) this.2.1) n (fun q hq => hX q (by omega))
  · have := hmem r hr
    exact eqW_bs T (by omega) n hn
  · have := hmem r hr
    exact eqB_bs (hB _ (by omega) this.2.1) n (fun q hq => hB q (by omega))
/-- each leading square has the kernel 0 -/
theorem eqs_lead {T : Nat → Bool} {X : Nat → List Nat} {n p : Nat} (hn : n ≤ 128) (hp : p ≤ 128) (hm : n ≤ cnt T (n + p)) : Lead (wA (eqs T X n p)) (lostN T n) := by
  intro k hk v hv hz h0
  have hl := took_all hm
  have hcl := cnt_lost T n
  have hmem := fun r (hr : r < lostN T n) => took_mem T n (lostN T n) p r (by omega)
  -- the parts whose lost ones are v
  let y : Nat → Nat := fun i => if T i then 0 else v (lostN T i)
  have hyd : ∀ i, y i = if T i then 0 else v (lostN T i) := fun _ => rfl
  have hy : By y := fun i => by rw [hyd]; split; omega; exact hv _
  have hsh : ∀ i, i < n → sh (lst y n) i = y i := fun i hi => by
    unfold sh
    rw [dif_pos (by rw [lst_length]; exact hi)]
    have := lst_get y n i hi
    rwa [List.getD_eq_getElem?_getD, List.getElem?_eq_getElem (by rw [lst_length]; exact hi)] at this
  have hfew : ∀ i, i ≤ n → i ≤ zs (lst y n) i + min (lostN T i) (k + 1) := by
    intro i
    induction i with
    | zero => intro _; omega
    | succ i ih =>
      intro hi
      have h1 := ih (by omega)
      rw [zs, lostN, hsh i (by omega), hyd]
      cases ht : T i
      · simp only [Bool.false_eq_true, if_false]
        by_cases hc : k < lostN T i
        · rw [if_pos (hz _ hc)]; omega
        · split <;> omega
      · simp only [if_true]; omega
  have hgs : ∀ r, r ≤ k → sh (lst y n) (n + (took T n (lostN T n) p).getD r 0) = 0 := fun r hr => by
    have hr' := h0 r hr
    have hmr := hmem r (by omega)
    unfold sh
    rw [dif_neg (by rw [lst_length]; omega), lst_length, gsum_sm, lst_length, Nat.add_sub_cancel_left]
    have e : sm (fun i => M (inv ((128 + (took T n (lostN T n) p).getD r 0) ^^^ (0 + i))) ((lst y n).getD i 0)) n = sm (fun i => M (wt ((took T n (lostN T n) p).getD r 0) i) (y i)) n :=
      sm_congr fun i hi => by rw [lst_get y n i hi, Nat.zero_add]; rfl
    rw [e, sm_split T y v _ (fun i hi => by rw [hyd, hi]; rfl)]
    rw [sm_zero (fun i _ => by rw [hyd]; split; exact M_zero _; rfl), Nat.zero_xor]
    exact hr'
  have hmany : ∀ r, r ≤ k → zs (lst y n) n + (r + 1) ≤ zs (lst y n) (n + (took T n (lostN T n) p).getD r 0 + 1) := by
    intro r
    induction r with
    | zero =>
      intro hr
      have := zs_mono (lst y n) n ((took T n (lostN T n) p).getD 0 0)
      rw [zs, if_pos (hgs 0 hr)]
      omega
    | succ r ih =>
      intro hr
      have h1 := ih (by omega)
      have a1 := hmem r (by omega)
      have a2 := hmem (r + 1) (by omega)
      have hlt : (took T n (lostN T n) p).getD r 0 < (took T n (lostN T n) p).getD (r + 1) 0 := by
        rcases Nat.lt_or_ge ((took T n (lostN T n) p).getD r 0) ((took T n (lostN T n) p).getD (r + 1) 0) with h | h
        · exact h
        · have := cnt_mono' T (i := n + (took T n (lostN T n) p).getD (r + 1) 0) (j := n + (took T n (lostN T n) p).getD r 0) (by omega)
          omega
      have := zs_mono (lst y n) (n + (took T n (lostN T n) p).getD r 0 + 1) ((took T n (lostN T n) p).getD (r + 1) 0 - (took T n (lostN T n) p).getD r 0 - 1)
      rw [show n + (took T n (lostN T n) p).getD r 0 + 1 + ((took T n (lostN T n) p).getD (r + 1) 0 - (took T n (lostN T n) p).getD r 0 - 1) = n + (took T n (lostN T n) p).getD (r + 1) 0 from by omega] at this
      rw [zs, if_pos (hgs (r + 1) hr)]
      omega
  refine Classical.byContradiction fun hvk => ?_
  -- the lost part number k
  have hex : ∀ q, k < lostN T q → ∃ i, i < q ∧ T i = false ∧ lostN T i = k := by
    intro q
    induction q with
    | zero => intro h; simp [lostN] at h
    | succ q ih =>
      intro h
      by_cases hq : k < lostN T q
      · obtain ⟨i, h1, h2⟩ := ih hq
        exact ⟨i, by omega, h2⟩
      · rw [lostN] at h
        cases ht : T q
        · rw [ht] at h
          exact ⟨q, by omega, ht, by simp at h; omega⟩
        · rw [ht] at h; simp at h; omega
  obtain ⟨i, hi, hti, hik⟩ := hex n hk
  have h3 := zs_lt (lst_bs hy n) (by rw [lst_length]; exact hn) ⟨y i, by
    rw [← lst_get y n i hi, List.getD_eq_getElem?_getD, List.getElem?_eq_getElem (by rw [lst_length]; exact hi)]
    exact List.getElem_mem _, by rw [hyd, hti, hik]; exact hvk⟩ (m := n + (took T n (lostN T n) p).getD k 0 + 1) (by
      have := hmem k hk
      rw [lst_length]; omega)
  rw [lst_length] at h3
  have h4 := hmany k (Nat.le_refl _)
  have h5 := hfew n (Nat.le_refl _)
  omega
theorem part_length {T : Nat → Bool} {X : Nat → List Nat} {n p m : Nat} (hn : n ≤ 128) (hp : p ≤ 128) (hm : n ≤ cnt T (n + p))
    (hX : ∀ i, i < n + p → T i = true → (X i).length = m) (hB : ∀ i, i < n + p → T i = true → Bs (X i)) {i : Nat} (hi : i < n) : (part T X n p i).length = m := by
  unfold part
  split
  · next h => exact hX i (by omega) h
  · next h => exact ((eqs_shape hn hp hm hX hB).solved _ (Nat.le_refl _)).b _ (lost_lt hi (by simpa using h))
theorem part_bs {T : Nat → Bool} {X : Nat → List Nat} {n p m : Nat} (hn : n ≤ 128) (hp : p ≤ 128) (hm : n ≤ cnt T (n + p))
    (hX : ∀ i, i < n + p → T i = true → (X i).length = m) (hB : ∀ i, i < n + p → T i = true → Bs (X i)) {i : Nat} (hi : i < n) : Bs (part T X n p i) := by
  unfold part
  split
  · next h => exact hB i (by omega) h
  · next h => exact ((eqs_shape hn hp hm hX hB).solved _ (Nat.le_refl _)).bs _ (lost_lt hi (by simpa using h))
/-- the guard's byte of the parts that come out is the guard's own -/
theorem part_guard {T : Nat → Bool} {X : Nat → List Nat} {n p m : Nat} (hn : n ≤ 128) (hp : p ≤ 128) (hm : n ≤ cnt T (n + p))
    (hX : ∀ i, i < n + p → T i = true → (X i).length = m) (hB : ∀ i, i < n + p → T i = true → Bs (X i)) {j : Nat} (hj : j < p) (ht : T (n + j) = true) (hc : cnt T (n + j) < n) (a : Nat) :
    sm (fun i => M (wt j i) ((part T X n p i).getD a 0)) n = (X (n + j)).getD a 0 := by
  obtain ⟨h1, h2⟩ := took_get hj ht hc
  have hl := took_all hm
  have hs := eqs_shape hn hp hm hX hB
  have hsl := hs.solved _ (Nat.le_refl _)
  let v : Nat → Nat := fun c => if c < lostN T n then bA (solved (eqs T X n p) (lostN T n) (lostN T n)) a c else 0
  have hvd : ∀ c, v c = if c < lostN T n then bA (solved (eqs T X n p) (lostN T n) (lostN T n)) a c else 0 := fun _ => rfl
  have hv : By v := fun c => by rw [hvd]; split; exact bA_lt hsl (by assumption) a; omega
  have hsol := solves hs (eqs_lead hn hp hm) a v hv (fun r hr => by rw [hvd, if_pos hr]) (cnt T (n + j) - cnt T n) (by omega)
  have e1 : wA (eqs T X n p) (cnt T (n + j) - cnt T n) = fun c => (eqW T j n).getD c 0 := by
    funext c; unfold wA eqs; rw [h2]; rfl
  have e2 : bA (eqs T X n p) a (cnt T (n + j) - cnt T n) = (eqB T X j (X (n + j)) n).getD a 0 := by
    unfold bA eqs; rw [h2]; rfl
  rw [e1, e2, eqB_get (by omega) (hX _ (by omega) ht) a n hn (fun q hq => hX q (by omega)) (fun q hq => hB q (by omega))] at hsol
  have e3 : sm (fun i => M (wt j i) ((part T X n p i).getD a 0)) n = sm (fun i => M (wt j i) (if T i then (X i).getD a 0 else v (lostN T i))) n :=
    sm_congr fun i hi => by
      unfold part
      split
      · rfl
      · next h => rw [hvd, if_pos (lost_lt hi (by simpa using h))]; rfl
  rw [e3, sm_split T _ v j (fun i hi => by rw [hi]; rfl)]
  rw [show sm (fun c => M ((eqW T j n).getD c 0) (v c)) (lostN T n) = rw_ (fun c => (eqW T j n).getD c 0) v (lostN T n) from rfl, hsol]
  rw [sm_congr (g := fun i => if T i then M (wt j i) ((X i).getD a 0) else 0) (fun i _ => by split <;> simp_all)]
  rw [Nat.xor_comm, xor_twice]
end Fd
end Go.Proofs.YtoeohnknpbdgdaaDoor
