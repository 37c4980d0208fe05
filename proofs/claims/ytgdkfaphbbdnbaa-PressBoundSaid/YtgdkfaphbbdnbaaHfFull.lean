/-
  P19's lengths (no program in it): who is there has one, the whole is filled, more frequent is no longer, no total is smaller.
-/
import Derived.Test.YtgdkfaphbbdnbaaHfLen
import Derived.Test.YtgdkfaphbbdnbaaHuffMath5
namespace Go.Proofs.Ytgdkfaphbbdnbaa
namespace Hf

theorem Run.absent {H : List Hp} {L : Nat → Nat} (h : Run H L) {i : Nat} (hi : ∀ x ∈ H, x.mem i = false) : L i = 0 := by
  induction h using Run.ind with
  | one y => rfl
  | @step H R a b L hp ha hb h ih =>
    have h1 := hi a (hp.mem_iff.2 List.mem_cons_self)
    have h2 := hi b (hp.mem_iff.2 (List.mem_cons_of_mem _ List.mem_cons_self))
    have h3 := ih fun x hx => by
      rcases List.mem_cons.1 hx with rfl | hx
      · show (a.mem i || b.mem i) = false
        rw [h1, h2]; rfl
      · exact hi x (hp.mem_iff.2 (List.mem_cons_of_mem _ (List.mem_cons_of_mem _ hx)))
    show (if a.mem i || b.mem i then 1 else 0) + L i = 0
    rw [h1, h2, h3]
    rfl
/-- signs that are there, with their lengths -/
def pairs (F l : List Nat) (k : Nat) : Ps := (init F k).map fun x => (x.1, l.getD x.2.1 0)
theorem pairs_succ (F l : List Nat) (k : Nat) : pairs F l (k + 1) = pairs F l k ++ if 0 < F.getD k 0 then [(F.getD k 0, l.getD k 0)] else [] := by
  unfold pairs
  rw [init_succ, List.map_append]
  by_cases h : 0 < F.getD k 0
  · rw [if_pos h, if_pos h]; rfl
  · rw [if_neg h, if_neg h]; rfl
theorem pairs_kr (F l : List Nat) (k : Nat) : kr 48 (pairs F l k) = sumIf (List.range k) (fun j => 2 ^ (48 - l.getD j 0)) (fun j => decide (0 < F.getD j 0)) := by
  induction k with
  | zero => rfl
  | succ k ih =>
    rw [pairs_succ, sumIf_succ, ← ih]
    unfold kr
    rw [List.map_append, List.sum_append]
    congr 1
    by_cases h : 0 < F.getD k 0
    · rw [if_pos h, if_pos (by simpa using h)]; simp
    · rw [if_neg h, if_neg (by simpa using h)]; rfl
/-- the total of the first k -/
def tot (F l : List Nat) (k : Nat) : Nat := ((List.range k).map fun i => F.getD i 0 * l.getD i 0).sum
theorem tot_succ (F l : List Nat) (k : Nat) : tot F l (k + 1) = tot F l k + F.getD k 0 * l.getD k 0 := by
  unfold tot
  rw [List.range_succ, List.map_append, List.sum_append]
  simp
theorem pairs_cost (F l : List Nat) (k : Nat) : cost (pairs F l k) = tot F l k := by
  induction k with
  | zero => rfl
  | succ k ih =>
    rw [pairs_succ, tot_succ, ← ih]
    unfold cost
    rw [List.map_append, List.sum_append]
    congr 1
    by_cases h : 0 < F.getD k 0
    · rw [if_pos h]; simp
    · rw [if_neg h, show F.getD k 0 = 0 by omega, Nat.zero_mul]; rfl
theorem pairs_fst (F l m : List Nat) (k : Nat) : (pairs F l k).map (·.1) = (pairs F m k).map (·.1) := by
  unfold pairs
  rw [List.map_map, List.map_map]
  rfl
theorem init_of {F : List Nat} {k i : Nat} (hi : i < k) (h : 0 < F.getD i 0) : (F.getD i 0, i, [i]) ∈ init F k :=
  List.mem_filterMap.2 ⟨i, List.mem_range.2 hi, if_pos h⟩
theorem two_out {α : Type} {l : List α} {a b : α} (ha : a ∈ l) (hb : b ∈ l) (hne : b ≠ a) : ∃ R, l.Perm (a :: b :: R) := by
  obtain ⟨s, t, rfl⟩ := List.append_of_mem ha
  have hb' : b ∈ s ++ t := by
    rcases List.mem_append.1 hb with h | h
    · exact List.mem_append_left _ h
    · rcases List.mem_cons.1 h with h | h
      · exact absurd h hne
      · exact List.mem_append_right _ h
  obtain ⟨s', t', e⟩ := List.append_of_mem hb'
  refine ⟨s' ++ t', ?_⟩
  refine List.perm_middle.trans (List.Perm.cons _ ?_)
  rw [e]
  exact List.perm_middle
/-- all that there is to say of more than one sign -/
structure Two (F out : List Nat) : Prop where
  hp : HP (pairs F out F.length)
  absent : ∀ i, F.getD i 0 = 0 → out.getD i 0 = 0
theorem HL.two {F out : List Nat} (h : HL F out) (h2 : F.length ≤ 256) (h3 : ∀ n ∈ F, n ≤ 1048576) (h4 : 2 ≤ (init F F.length).length) : Two F out := by
  have hr := h.more h4
  have hst := (Inv.start h2 h3).st
  have hA : Apart (H0 F) := by
    refine ⟨fun x hx => ?_, ?_⟩
    · obtain ⟨y, hy, rfl⟩ := List.mem_map.1 hx
      exact decide_eq_true (hst.low y hy)
    · unfold H0
      rw [List.pairwise_map]
      have hn := hst.nodup
      unfold List.Nodup at hn
      rw [List.pairwise_flatMap] at hn
      refine hn.2.imp fun hab i ⟨h1, h2⟩ => ?_
      exact hab i (of_decide_eq_true h1) i (of_decide_eq_true h2) rfl
  refine ⟨?_, fun i hi => hr.absent fun x hx => ?_⟩
  · have := hr.hp hA
    unfold H0 at this
    rw [List.map_map] at this
    exact this
  · obtain ⟨y, hy, rfl⟩ := List.mem_map.1 hx
    obtain ⟨j, hj, hj0, rfl⟩ := init_mem hy
    refine decide_eq_false fun hm => ?_
    have : i = j := List.mem_singleton.1 hm
    subst this
    omega
theorem Two.le40 {F out : List Nat} (h : Two F out) (h2 : F.length ≤ 256) (h3 : ∀ n ∈ F, n ≤ 1048576) : ∀ x ∈ pairs F out F.length, x.2 ≤ 40 := by
  refine h.hp.bound (fun x hx => ?_) ?_
  · obtain ⟨y, hy, rfl⟩ := List.mem_map.1 hx
    obtain ⟨j, _, hj0, rfl⟩ := init_mem hy
    exact hj0
  · have := (Inv.start h2 h3).st.wt
    unfold pairs
    rw [List.map_map]
    exact this
theorem mem_pairs {F l : List Nat} {k i : Nat} (hi : i < k) (h : 0 < F.getD i 0) : (F.getD i 0, l.getD i 0) ∈ pairs F l k := List.mem_map.2 ⟨_, init_of hi h, rfl⟩
theorem getD_out {l : List Nat} {i : Nat} (h : l.length ≤ i) : l.getD i 0 = 0 := by
  rw [List.getD_eq_getElem?_getD, List.getElem?_eq_none h]
  rfl
theorem getD_rep (n i : Nat) : (List.replicate n 0).getD i 0 = 0 := by
  rw [List.getD_eq_getElem?_getD]
  cases e : (List.replicate n 0)[i]? with
  | none => rfl
  | some x => exact List.eq_of_mem_replicate (List.mem_of_getElem? e)
theorem HL.le48 {F out : List Nat} (h : HL F out) (h2 : F.length ≤ 256) (h3 : ∀ n ∈ F, n ≤ 1048576) : ∀ n ∈ out, n ≤ 48 := by
  have key : ∀ i, out.getD i 0 ≤ 48 := by
    intro i
    rcases (show (init F F.length).length = 0 ∨ (init F F.length).length = 1 ∨ 2 ≤ (init F F.length).length by omega) with e | e | e
    · rw [h.none e, getD_rep]; omega
    · obtain ⟨x, hx⟩ := List.length_eq_one_iff.1 e
      obtain ⟨j, hj, _, rfl⟩ := init_mem (show x ∈ init F F.length by rw [hx]; exact List.mem_cons_self)
      rw [h.one _ hx, getD_set _ _ _ _ (by simpa using hj), getD_rep]
      split <;> omega
    · have ht := h.two h2 h3 e
      by_cases h0 : 0 < F.getD i 0
      · have hi : i < F.length := by
          apply Classical.byContradiction
          intro hn
          rw [getD_out (by omega)] at h0
          omega
        have := ht.le40 h2 h3 _ (mem_pairs (l := out) hi h0)
        dsimp only at this
        omega
      · rw [ht.absent i (by omega)]; omega
  intro n hn
  obtain ⟨i, hi, rfl⟩ := List.getElem_of_mem hn
  have := key i
  rw [List.getD_eq_getElem?_getD, List.getElem?_eq_getElem hi] at this
  exact this
/-- who is there has a length, who isn't has none -/
theorem HL.there {F out : List Nat} (h : HL F out) (h2 : F.length ≤ 256) (h3 : ∀ n ∈ F, n ≤ 1048576) (i : Nat) : 0 < F.getD i 0 ↔ 0 < out.getD i 0 := by
  by_cases hi : i < F.length
  · rcases (show (init F F.length).length = 0 ∨ (init F F.length).length = 1 ∨ 2 ≤ (init F F.length).length by omega) with e | e | e
    · rw [h.none e, getD_rep]
      refine ⟨fun h0 => ?_, fun h0 => by omega⟩
      have := List.length_pos_of_mem (init_of hi h0)
      omega
    · obtain ⟨x, hx⟩ := List.length_eq_one_iff.1 e
      obtain ⟨j, hj, hj0, rfl⟩ := init_mem (show x ∈ init F F.length by rw [hx]; exact List.mem_cons_self)
      rw [h.one _ hx, getD_set _ _ _ _ (by simpa using hj), getD_rep]
      by_cases e2 : j = i
      · subst e2
        rw [if_pos rfl]
        exact ⟨fun _ => by omega, fun _ => hj0⟩
      · rw [if_neg e2]
        refine ⟨fun h0 => ?_, fun h0 => by omega⟩
        have := init_of hi h0
        rw [hx] at this
        have := List.mem_singleton.1 this
        simp at this
        omega
    · have ht := h.two h2 h3 e
      refine ⟨fun h0 => ?_, fun h0 => ?_⟩
      · apply Classical.byContradiction
        intro hn
        have hz : out.getD i 0 = 0 := by omega
        have hk := ht.hp.kraft 48 (fun x hx => by have := ht.le40 h2 h3 x hx; omega)
        have hl : 2 ≤ (pairs F out F.length).length := by unfold pairs; rw [List.length_map]; exact e
        obtain ⟨s, t, ep⟩ := List.append_of_mem (mem_pairs (l := out) hi h0)
        rw [ep] at hk hl
        rw [kr_perm List.perm_middle, kr_cons, hz] at hk
        have hl2 : 0 < (s ++ t).length := by simp at hl ⊢; omega
        cases es : s ++ t with
        | nil => rw [es] at hl2; simp at hl2
        | cons y r =>
          rw [es, kr_cons] at hk
          have := Nat.two_pow_pos (48 - y.2)
          dsimp only at hk
          rw [Nat.sub_zero] at hk
          omega
      · apply Classical.byContradiction
        intro hn
        have := ht.absent i (by omega)
        omega
  · rw [getD_out (by omega), getD_out (by rw [h.len]; omega)]
/-- the whole is filled -/
theorem HL.ksum {F out : List Nat} (h : HL F out) (h2 : F.length ≤ 256) (h3 : ∀ n ∈ F, n ≤ 1048576) :
    ksum out = if (init F F.length).length = 0 then 0 else if (init F F.length).length = 1 then 140737488355328 else 281474976710656 := by
  have e0 : Hf.ksum out = kr 48 (pairs F out F.length) := by
    rw [pairs_kr]
    unfold Hf.ksum
    rw [h.len]
    exact sumIf_congr fun j _ => decide_eq_decide.2 (h.there h2 h3 j).symm
  rw [e0]
  rcases (show (init F F.length).length = 0 ∨ (init F F.length).length = 1 ∨ 2 ≤ (init F F.length).length by omega) with e | e | e
  · rw [if_pos e]
    unfold pairs
    rw [List.length_eq_zero_iff.1 e]
    rfl
  · rw [if_neg (by omega), if_pos e]
    obtain ⟨x, hx⟩ := List.length_eq_one_iff.1 e
    obtain ⟨j, hj, hj0, rfl⟩ := init_mem (show x ∈ init F F.length by rw [hx]; exact List.mem_cons_self)
    unfold pairs
    rw [hx]
    have : out.getD j 0 = 1 := by rw [h.one _ hx, getD_set _ _ _ _ (by simpa using hj), if_pos rfl]
    simp only [List.map_cons, List.map_nil, kr_cons, this]
    rfl
  · rw [if_neg (by omega), if_neg (by omega)]
    have ht := h.two h2 h3 e
    rw [ht.hp.kraft 48 (fun x hx => by have := ht.le40 h2 h3 x hx; omega)]
theorem HL.order {F out : List Nat} (h : HL F out) (h2 : F.length ≤ 256) (h3 : ∀ n ∈ F, n ≤ 1048576) {i j : Nat} (hi : i < F.length) (hj : j < F.length) (h0 : 0 < F.getD j 0) (hlt : F.getD j 0 < F.getD i 0) : out.getD i 0 ≤ out.getD j 0 := by
  have hne : (F.getD i 0, i, [i]) ≠ (F.getD j 0, j, [j]) := fun e => by simp at e; simp at hlt; omega
  have hi' := init_of hi (by omega : 0 < F.getD i 0)
  have hj' := init_of hj h0
  have e : 2 ≤ (init F F.length).length := by
    obtain ⟨R, hR⟩ := two_out hj' hi' hne
    rw [hR.length_eq]
    simp
  have ht := h.two h2 h3 e
  obtain ⟨R, hR⟩ := two_out hj' hi' hne
  have := hR.map fun x : Ab => (x.1, out.getD x.2.1 0)
  exact ht.hp.order 48 (fun x hx => by have := ht.le40 h2 h3 x hx; omega) this hlt
theorem HL.least {F out M : List Nat} (h : HL F out) (h2 : F.length ≤ 256) (h3 : ∀ n ∈ F, n ≤ 1048576) (hM : M.length = F.length) (hM48 : ∀ n ∈ M, n ≤ 48) (hk : Hf.ksum M ≤ 281474976710656) (hm : ∀ i, 0 < F.getD i 0 → 0 < M.getD i 0) : tot F out F.length ≤ tot F M F.length := by
  rw [← pairs_cost, ← pairs_cost]
  rcases (show (init F F.length).length = 0 ∨ (init F F.length).length = 1 ∨ 2 ≤ (init F F.length).length by omega) with e | e | e
  · unfold pairs
    rw [List.length_eq_zero_iff.1 e]
    exact Nat.le_refl _
  · obtain ⟨x, hx⟩ := List.length_eq_one_iff.1 e
    obtain ⟨j, hj, hj0, rfl⟩ := init_mem (show x ∈ init F F.length by rw [hx]; exact List.mem_cons_self)
    have e1 : out.getD j 0 = 1 := by rw [h.one _ hx, getD_set _ _ _ _ (by simpa using hj), if_pos rfl]
    have e2 := hm j hj0
    unfold pairs
    rw [hx]
    simp only [List.map_cons, List.map_nil, cost_cons, e1]
    exact Nat.add_le_add_right (Nat.mul_le_mul_left _ e2) _
  · have ht := h.two h2 h3 e
    refine ht.hp.least (by rw [pairs_fst F M out]) 48 (fun x hx => ?_) ?_
    · obtain ⟨y, _, rfl⟩ := List.mem_map.1 hx
      have : ∀ i, M.getD i 0 ≤ 48 := fun i => getD_le hM48 i
      exact this _
    · rw [pairs_kr]
      refine Nat.le_trans (sumIf_le (q := fun j => decide (0 < M.getD j 0)) fun j _ hj => by simp at hj ⊢; simpa using hm j (by simpa using hj)) ?_
      unfold Hf.ksum at hk
      rw [hM] at hk
      exact Nat.le_trans hk (by decide)
end Hf
end Go.Proofs.Ytgdkfaphbbdnbaa
