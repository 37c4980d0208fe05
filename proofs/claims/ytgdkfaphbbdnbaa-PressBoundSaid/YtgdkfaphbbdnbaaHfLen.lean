/-
  Making the two least heaps one, again and again (no program in it): what stays true, and the lengths that come of it.
-/
import Derived.Test.YtgdkfaphbbdnbaaHpMath
namespace Go.Proofs.Ytgdkfaphbbdnbaa
namespace Hf
/-- a heap of signs, without the value that its list of signs is -/
abbrev Ab := Nat × Nat × List Nat
def ab (g : G) : Ab := (g.wt, g.low, g.sg)
/-- a heap of each sign that is there, of the first k -/
def init (F : List Nat) (k : Nat) : List Ab := (List.range k).filterMap fun i => if 0 < F.getD i 0 then some (F.getD i 0, i, [i]) else none
theorem init_succ (F : List Nat) (k : Nat) : init F (k + 1) = init F k ++ if 0 < F.getD k 0 then [(F.getD k 0, k, [k])] else [] := by
  unfold init
  rw [List.range_succ, List.filterMap_append]
  congr 1
  by_cases h : 0 < F.getD k 0
  · simp only [List.filterMap_cons, List.filterMap_nil]
    rw [if_pos h, if_pos h]
  · simp only [List.filterMap_cons, List.filterMap_nil]
    rw [if_neg h, if_neg h]
theorem init_length (F : List Nat) (k : Nat) : (init F k).length ≤ k := by
  have := List.length_filterMap_le (fun i => if 0 < F.getD i 0 then some (F.getD i 0, i, [i]) else none) (List.range k)
  rw [List.length_range] at this
  exact this


def toHp (x : Ab) : Hp := ⟨x.1, x.2.1, fun i => decide (i ∈ x.2.2)⟩
def H0 (F : List Nat) : List Hp := (init F F.length).map toHp
/-- not ahead of -/
def nlt (c a : Ab) : Prop := a.1 < c.1 ∨ (a.1 = c.1 ∧ a.2.1 ≤ c.2.1)
/-- heaps of signs below n that no two have together, each with its least sign in it -/
structure St (n : Nat) (A : List Ab) : Prop where
  nodup : (A.flatMap (·.2.2)).Nodup
  low : ∀ x ∈ A, x.2.1 ∈ x.2.2
  lt : ∀ x ∈ A, ∀ i ∈ x.2.2, i < n
  wt : (A.map (·.1)).sum ≤ 268435456
  count : (A.flatMap (·.2.2)).length ≤ 256
theorem St.perm {n : Nat} {A B : List Ab} (h : St n A) (hp : A.Perm B) : St n B := by
  have hf := hp.flatMap_right (·.2.2)
  exact ⟨hf.nodup_iff.1 h.nodup, fun x hx => h.low x (hp.mem_iff.2 hx), fun x hx => h.lt x (hp.mem_iff.2 hx), by rw [← (hp.map _).sum_nat]; exact h.wt, by rw [← hf.length_eq]; exact h.count⟩
theorem St.join {n : Nat} {a b : Ab} {R : List Ab} (h : St n (a :: b :: R)) {s : List Nat} (hs : s.Perm (a.2.2 ++ b.2.2)) : St n ((a.1 + b.1, min a.2.1 b.2.1, s) :: R) := by
  have hf : ((a.1 + b.1, min a.2.1 b.2.1, s) :: R : List Ab).flatMap (·.2.2) |>.Perm ((a :: b :: R).flatMap (·.2.2)) := by
    simp only [List.flatMap_cons]
    rw [← List.append_assoc]
    exact hs.append_right _
  refine ⟨hf.nodup_iff.2 h.nodup, fun x hx => ?_, fun x hx i hi => ?_, ?_, by rw [hf.length_eq]; exact h.count⟩
  · rcases List.mem_cons.1 hx with rfl | hx
    · have h1 := h.low a List.mem_cons_self
      have h2 := h.low b (List.mem_cons_of_mem _ List.mem_cons_self)
      show min a.2.1 b.2.1 ∈ s
      rw [hs.mem_iff, List.mem_append]
      rcases Nat.le_total a.2.1 b.2.1 with e | e
      · rw [Nat.min_eq_left e]; exact .inl h1
      · rw [Nat.min_eq_right e]; exact .inr h2
    · exact h.low x (List.mem_cons_of_mem _ (List.mem_cons_of_mem _ hx))
  · rcases List.mem_cons.1 hx with rfl | hx
    · rcases List.mem_append.1 (hs.mem_iff.1 hi) with hi | hi
      · exact h.lt a List.mem_cons_self i hi
      · exact h.lt b (List.mem_cons_of_mem _ List.mem_cons_self) i hi
    · exact h.lt x (List.mem_cons_of_mem _ (List.mem_cons_of_mem _ hx)) i hi
  · have := h.wt
    simp only [List.map_cons, List.sum_cons] at this ⊢
    omega
/-- who comes first comes truly first -/
theorem St.less {n : Nat} {a : Ab} {R : List Ab} (h : St n (a :: R)) (ha : ∀ c ∈ R, nlt c a) : ∀ c ∈ R.map toHp, less (toHp a) c := by
  intro c hc
  obtain ⟨x, hx, rfl⟩ := List.mem_map.1 hc
  have h1 := h.low a List.mem_cons_self
  have h2 := h.low x (List.mem_cons_of_mem _ hx)
  have h3 : a.2.1 ≠ x.2.1 := by
    intro e
    have := h.nodup
    rw [List.flatMap_cons, List.nodup_append] at this
    exact this.2.2 _ h1 _ (List.mem_flatMap.2 ⟨x, hx, h2⟩) e
  have h4 := ha x hx
  unfold nlt at h4
  unfold Hf.less toHp
  dsimp only
  omega
theorem St.tail {n : Nat} {a : Ab} {R : List Ab} (h : St n (a :: R)) : St n R := by
  refine ⟨?_, fun x hx => h.low x (List.mem_cons_of_mem _ hx), fun x hx => h.lt x (List.mem_cons_of_mem _ hx), ?_, ?_⟩
  · have := h.nodup
    rw [List.flatMap_cons, List.nodup_append] at this
    exact this.2.1
  · have := h.wt
    simp only [List.map_cons, List.sum_cons] at this
    omega
  · have := h.count
    rw [List.flatMap_cons, List.length_append] at this
    omega
/-- one more at each of some places -/
def bump (out : List Nat) (s : List Nat) : List Nat := s.foldl (fun o i => o.set i (o.getD i 0 + 1)) out
theorem bump_length (out s : List Nat) : (bump out s).length = out.length := by
  induction s generalizing out with
  | nil => rfl
  | cons i s ih => show (bump (out.set i (out.getD i 0 + 1)) s).length = _; rw [ih, List.length_set]
theorem bump_more (out s : List Nat) (i : Nat) : bump out (s ++ [i]) = (bump out s).set i ((bump out s).getD i 0 + 1) := by simp [bump]
theorem getD_set (l : List Nat) (i j x : Nat) (hi : i < l.length) : (l.set i x).getD j 0 = if i = j then x else l.getD j 0 := by
  rw [List.getD_eq_getElem?_getD, List.getD_eq_getElem?_getD, List.getElem?_set]
  by_cases h : i = j
  · rw [if_pos h, if_pos h, if_pos (by omega)]; rfl
  · rw [if_neg h, if_neg h]
theorem bump_get {out s : List Nat} (hn : s.Nodup) (hs : ∀ i ∈ s, i < out.length) (j : Nat) : (bump out s).getD j 0 = out.getD j 0 + if j ∈ s then 1 else 0 := by
  induction s generalizing out with
  | nil => simp [bump]
  | cons i s ih =>
    have hi := hs i List.mem_cons_self
    have hn' := List.nodup_cons.1 hn
    show (bump (out.set i (out.getD i 0 + 1)) s).getD j 0 = _
    rw [ih hn'.2 (fun k hk => by rw [List.length_set]; exact hs k (List.mem_cons_of_mem _ hk)), getD_set _ _ _ _ hi]
    by_cases e : i = j
    · subst e
      rw [if_pos rfl, if_neg hn'.1, if_pos List.mem_cons_self]
    · rw [if_neg e]
      by_cases e2 : j ∈ s
      · rw [if_pos e2, if_pos (List.mem_cons_of_mem _ e2)]
      · rw [if_neg e2, if_neg fun h => by rcases List.mem_cons.1 h with h | h; · exact e h.symm
                                          · exact e2 h]
/-- what stays true while heaps are made one -/
structure Inv (F : List Nat) (A : List Ab) (out : List Nat) : Prop where
  len : out.length = F.length
  st : St F.length A
  run : ∀ L, Run (A.map toHp) L → Run (H0 F) (fun i => out.getD i 0 + L i)
  few : ∀ i, out.getD i 0 + A.length ≤ 256
theorem Inv.perm {F : List Nat} {A B : List Ab} {out : List Nat} (h : Inv F A out) (hp : A.Perm B) : Inv F B out :=
  ⟨h.len, h.st.perm hp, fun L hL => h.run L (hL.perm (hp.map _)), fun i => by rw [← hp.length_eq]; exact h.few i⟩
theorem Inv.step {F : List Nat} {a b : Ab} {R : List Ab} {out s : List Nat} (h : Inv F (a :: b :: R) out) (ha : ∀ c ∈ b :: R, nlt c a) (hb : ∀ c ∈ R, nlt c b) (hs : s.Perm (a.2.2 ++ b.2.2)) :
    Inv F ((a.1 + b.1, min a.2.1 b.2.1, s) :: R) (bump out s) := by
  have hst := h.st.join hs
  have hn : s.Nodup := by
    have := hst.nodup
    rw [List.flatMap_cons, List.nodup_append] at this
    exact this.1
  have hlt : ∀ i ∈ s, i < out.length := fun i hi => by rw [h.len]; exact hst.lt _ List.mem_cons_self i hi
  refine ⟨by rw [bump_length]; exact h.len, hst, fun L hL => ?_, fun i => ?_⟩
  · have hj : ((a.1 + b.1, min a.2.1 b.2.1, s) :: R).map toHp = Hf.join (toHp a) (toHp b) :: R.map toHp := by
      rw [List.map_cons]
      congr 1
      unfold Hf.join toHp
      congr 1
      funext i
      rw [Bool.eq_iff_iff]
      simp only [decide_eq_true_eq, Bool.or_eq_true]
      rw [hs.mem_iff, List.mem_append]
    rw [hj] at hL
    have := h.run _ (Run.step (List.Perm.refl _) (h.st.less ha) (h.st.tail.less hb) hL)
    have e : (fun i => (bump out s).getD i 0 + L i) = fun i => out.getD i 0 + ((if (toHp a).mem i || (toHp b).mem i then 1 else 0) + L i) := by
      funext i
      rw [bump_get hn hlt, Nat.add_assoc]
      congr 2
      have e1 : ((toHp a).mem i || (toHp b).mem i) = decide (i ∈ s) := by
        unfold toHp
        rw [Bool.eq_iff_iff]
        simp only [decide_eq_true_eq, Bool.or_eq_true]
        rw [hs.mem_iff, List.mem_append]
      rw [e1]
      by_cases h : i ∈ s
      · simp [h]
      · simp [h]
    rw [e]
    exact this
  · have := h.few i
    rw [bump_get hn hlt]
    simp only [List.length_cons] at this ⊢
    split <;> omega
theorem Inv.done {F : List Nat} {x : Ab} {out : List Nat} (h : Inv F [x] out) : Run (H0 F) (fun i => out.getD i 0) := by
  have := h.run _ (Run.one (toHp x))
  simpa using this
theorem init_mem {F : List Nat} {k : Nat} {x : Ab} (h : x ∈ init F k) : ∃ i, i < k ∧ 0 < F.getD i 0 ∧ x = (F.getD i 0, i, [i]) := by
  obtain ⟨i, hi, e⟩ := List.mem_filterMap.1 h
  by_cases h0 : 0 < F.getD i 0
  · rw [if_pos h0] at e
    exact ⟨i, List.mem_range.1 hi, h0, by simpa using e.symm⟩
  · rw [if_neg h0] at e
    simp at e
theorem init_signs (F : List Nat) (k : Nat) : (init F k).flatMap (·.2.2) = (List.range k).filter fun i => decide (0 < F.getD i 0) := by
  induction k with
  | zero => rfl
  | succ k ih =>
    rw [init_succ, List.flatMap_append, ih, List.range_succ, List.filter_append]
    congr 1
    by_cases h : 0 < F.getD k 0
    · rw [if_pos h, List.filter_cons, if_pos (by simpa using h)]; rfl
    · rw [if_neg h, List.filter_cons, if_neg (by simpa using h)]; rfl
theorem init_wt {F : List Nat} {k : Nat} (h : ∀ n ∈ F, n ≤ 1048576) : ((init F k).map (·.1)).sum ≤ k * 1048576 := by
  induction k with
  | zero => simp [init]
  | succ k ih =>
    rw [init_succ, List.map_append, List.sum_append]
    have h1 : F.getD k 0 ≤ 1048576 := by
      rw [List.getD_eq_getElem?_getD]
      cases e : F[k]? with
      | none => simp
      | some x => exact h x (List.mem_of_getElem? e)
    rw [Nat.succ_mul]
    refine Nat.add_le_add ih ?_
    by_cases h : 0 < F.getD k 0
    · rw [if_pos h]
      simpa using h1
    · rw [if_neg h]
      simp
theorem Inv.start {F : List Nat} (h2 : F.length ≤ 256) (h3 : ∀ n ∈ F, n ≤ 1048576) : Inv F (init F F.length) (List.replicate F.length 0) := by
  have hz : ∀ i, (List.replicate F.length 0).getD i 0 = 0 := fun i => by
    rw [List.getD_eq_getElem?_getD]
    cases e : (List.replicate F.length 0)[i]? with
    | none => rfl
    | some x => exact List.eq_of_mem_replicate (List.mem_of_getElem? e)
  refine ⟨by simp, ⟨?_, fun x hx => ?_, fun x hx i hi => ?_, ?_, ?_⟩, fun L hL => ?_, fun i => ?_⟩
  · rw [init_signs]
    exact List.nodup_range.filter _
  · obtain ⟨i, _, _, rfl⟩ := init_mem hx
    exact List.mem_singleton.2 rfl
  · obtain ⟨j, hj, _, rfl⟩ := init_mem hx
    rw [List.mem_singleton.1 hi]
    exact hj
  · have := init_wt (k := F.length) h3
    omega
  · rw [init_signs]
    have := List.length_filter_le (fun i => decide (0 < F.getD i 0)) (List.range F.length)
    rw [List.length_range] at this
    omega
  · have e : (fun i => (List.replicate F.length 0).getD i 0 + L i) = L := by funext i; rw [hz]; omega
    rw [e]
    exact hL
  · rw [hz]
    have := init_length F F.length
    omega
/-- P19's answer -/
structure HL (F out : List Nat) : Prop where
  len : out.length = F.length
  none : (init F F.length).length = 0 → out = List.replicate F.length 0
  one : ∀ x, init F F.length = [x] → out = (List.replicate F.length 0).set x.2.1 1
  more : 2 ≤ (init F F.length).length → Run (H0 F) (fun i => out.getD i 0)
theorem HL.once {F a b : List Nat} (h : HL F a) (k : HL F b) : a = b := by
  rcases (show (init F F.length).length = 0 ∨ (init F F.length).length = 1 ∨ 2 ≤ (init F F.length).length by omega) with e | e | e
  · rw [h.none e, k.none e]
  · obtain ⟨x, hx⟩ := List.length_eq_one_iff.1 e
    rw [h.one x hx, k.one x hx]
  · have := (h.more e).once (List.Perm.refl _) (k.more e)
    refine List.ext_getElem (by rw [h.len, k.len]) fun i h1 h2 => ?_
    have e : a.getD i 0 = b.getD i 0 := congrFun this i
    rw [List.getD_eq_getElem?_getD, List.getD_eq_getElem?_getD, List.getElem?_eq_getElem h1, List.getElem?_eq_getElem h2] at e
    exact e
end Hf
end Go.Proofs.Ytgdkfaphbbdnbaa
