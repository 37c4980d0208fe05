/-
  Codes (no Go in it): HUFFMAN: heaps that are made one, always two of the least weight, have the least total.
-/
import Derived.WalkKit
namespace Go.Proofs.Ytgdkfaphbbdnbaa
namespace Hf

/-- weights and lengths -/
abbrev Ps := List (Nat × Nat)
def cost (P : Ps) : Nat := (P.map fun x => x.1 * x.2).sum
def kr (B : Nat) (P : Ps) : Nat := (P.map fun x => 2 ^ (B - x.2)).sum
theorem cost_cons (x : Nat × Nat) (P : Ps) : cost (x :: P) = x.1 * x.2 + cost P := by simp [cost]
theorem kr_cons (B : Nat) (x : Nat × Nat) (P : Ps) : kr B (x :: P) = 2 ^ (B - x.2) + kr B P := by simp [kr]
theorem cost_perm {P Q : Ps} (h : P.Perm Q) : cost P = cost Q := (h.map _).sum_nat
theorem kr_perm {B : Nat} {P Q : Ps} (h : P.Perm Q) : kr B P = kr B Q := (h.map _).sum_nat
/-- what making all heaps one costs: always two of the least weight -/
def HC (ws : List Nat) (k : Nat) : Prop := ∀ M : List Nat → Nat → Prop, (∀ w, M [w] 0) → (∀ ws R a b k, ws.Perm (a :: b :: R) → a ≤ b → (∀ c ∈ R, b ≤ c) → M ((a + b) :: R) k → M ws (k + (a + b))) → M ws k
theorem HC.one (w : Nat) : HC [w] 0 := fun _ h1 _ => h1 w
theorem HC.step {ws R : List Nat} {a b k : Nat} (hp : ws.Perm (a :: b :: R)) (hab : a ≤ b) (hR : ∀ c ∈ R, b ≤ c) (h : HC ((a + b) :: R) k) : HC ws (k + (a + b)) :=
  fun M h1 h2 => h2 _ _ _ _ _ hp hab hR (h M h1 h2)
theorem HC.ind {M : ∀ ws k, HC ws k → Prop} (one : ∀ w, M [w] 0 (HC.one w))
    (step : ∀ {ws R : List Nat} {a b k : Nat} (hp : ws.Perm (a :: b :: R)) (hab : a ≤ b) (hR : ∀ c ∈ R, b ≤ c) (h : HC ((a + b) :: R) k) (_ : M _ _ h), M ws (k + (a + b)) (HC.step hp hab hR h))
    {ws : List Nat} {k : Nat} (h : HC ws k) : M ws k h := by
  obtain ⟨_, e⟩ := h (fun ws k => ∃ h : HC ws k, M ws k h) (fun w => ⟨.one w, one w⟩) (fun _ _ _ _ _ hp hab hR ⟨h, e⟩ => ⟨.step hp hab hR h, step hp hab hR h e⟩)
  exact e

theorem split {P : Ps} {a : Nat} {R : List Nat} (h : (P.map (·.1)).Perm (a :: R)) : ∃ x Q, P.Perm ((a, x) :: Q) ∧ (Q.map (·.1)).Perm R := by
  have hm : a ∈ P.map (·.1) := h.mem_iff.2 List.mem_cons_self
  obtain ⟨⟨a', x⟩, hx, rfl⟩ := List.mem_map.1 hm
  have hp := List.perm_cons_erase hx
  refine ⟨x, P.erase (a', x), hp, ?_⟩
  have := (hp.map (·.1)).symm.trans h
  exact List.Perm.cons_inv this
theorem split2 {P : Ps} {N : Nat} (h : N ∈ P.map (·.2)) : ∃ c Q, P.Perm ((c, N) :: Q) := by
  obtain ⟨⟨c, N'⟩, hx, rfl⟩ := List.mem_map.1 h
  exact ⟨c, _, List.perm_cons_erase hx⟩
theorem max_of : ∀ (l : List Nat), l ≠ [] → ∃ N, N ∈ l ∧ ∀ n ∈ l, n ≤ N
  | [], h => absurd rfl h
  | [n], _ => ⟨n, List.mem_cons_self, fun m hm => by rw [List.mem_singleton.1 hm]; exact Nat.le_refl _⟩
  | n :: m :: l, _ => by
    obtain ⟨N, h1, h2⟩ := max_of (m :: l) (by simp)
    by_cases h : n ≤ N
    · refine ⟨N, List.mem_cons_of_mem _ h1, fun k hk => ?_⟩
      rcases List.mem_cons.1 hk with rfl | hk
      · exact h
      · exact h2 k hk
    · refine ⟨n, List.mem_cons_self, fun k hk => ?_⟩
      rcases List.mem_cons.1 hk with rfl | hk
      · exact Nat.le_refl _
      · have := h2 k hk
        omega
theorem kr_dvd {B N : Nat} (hN : N + 1 ≤ B + 1) {P : Ps} (h : ∀ x ∈ P, x.2 < N) : 2 ^ (B - N + 1) ∣ kr B P := by
  induction P with
  | nil => exact Nat.dvd_zero _
  | cons x P ih =>
    rw [kr_cons]
    have hx := h x List.mem_cons_self
    exact Nat.dvd_add (Nat.pow_dvd_pow 2 (by omega)) (ih fun y hy => h y (List.mem_cons_of_mem _ hy))
theorem fill {S e D T : Nat} (h1 : D ∣ S) (h2 : D ∣ T) (he : 0 < e) (h : S + e ≤ T) : S + D ≤ T := by
  obtain ⟨s, rfl⟩ := h1
  obtain ⟨t, rfl⟩ := h2
  have hlt : s < t := by
    apply Classical.byContradiction
    intro hn
    have := Nat.mul_le_mul_left D (show t ≤ s by omega)
    omega
  have := Nat.mul_le_mul_left D (show s + 1 ≤ t by omega)
  rw [Nat.mul_add, Nat.mul_one] at this
  exact this
theorem kr_zero {B : Nat} {P : Ps} (h : ∀ x ∈ P, x.2 ≤ 0) : kr B P = P.length * 2 ^ B := by
  induction P with
  | nil => simp [kr]
  | cons x P ih =>
    have hx := h x List.mem_cons_self
    rw [kr_cons, ih fun y hy => h y (List.mem_cons_of_mem _ hy), show x.2 = 0 from by omega, List.length_cons, Nat.succ_mul, Nat.sub_zero]
    omega
/-- the greatest length may be taken to be there twice -/
theorem level (B S : Nat) (P : Ps) (hS : (P.map (·.2)).sum = S) (hl : 2 ≤ P.length) (hB : ∀ x ∈ P, x.2 ≤ B) (hk : kr B P ≤ 2 ^ B) :
    ∃ P' N c d Q, (P'.map (·.1)).Perm (P.map (·.1)) ∧ cost P' ≤ cost P ∧ kr B P' ≤ 2 ^ B ∧ (∀ x ∈ P', x.2 ≤ N) ∧ 1 ≤ N ∧ N ≤ B ∧ P'.Perm ((c, N) :: (d, N) :: Q) := by
  induction S using Nat.strongRecOn generalizing P with
  | ind S ih =>
    obtain ⟨N, hN1, hN2⟩ := max_of (P.map (·.2)) (by intro e; rw [List.map_eq_nil_iff] at e; rw [e] at hl; simp at hl)
    have hle : ∀ x ∈ P, x.2 ≤ N := fun x hx => hN2 _ (List.mem_map_of_mem hx)
    have hNB : N ≤ B := by
      obtain ⟨x, hx, rfl⟩ := List.mem_map.1 hN1
      exact hB x hx
    have h1 : 1 ≤ N := by
      apply Classical.byContradiction
      intro h0
      have := kr_zero (B := B) (P := P) fun x hx => by have := hle x hx; omega
      rw [this] at hk
      have h3 := Nat.mul_le_mul_right (2 ^ B) hl
      have h4 := Nat.two_pow_pos B
      omega
    obtain ⟨c, Q, hp⟩ := split2 hN1
    have hQle : ∀ x ∈ Q, x.2 ≤ N := fun x hx => hle x (hp.mem_iff.2 (List.mem_cons_of_mem _ hx))
    by_cases hQ : N ∈ Q.map (·.2)
    · obtain ⟨d, R, hq⟩ := split2 hQ
      exact ⟨P, N, c, d, R, .refl _, Nat.le_refl _, hk, hle, h1, hNB, hp.trans (hq.cons _)⟩
    · have hlt : ∀ x ∈ Q, x.2 < N := fun x hx => by
        have h2 := hQle x hx
        have h3 : x.2 ≠ N := fun e => hQ (e ▸ List.mem_map_of_mem hx)
        omega
      have hd := kr_dvd (B := B) (N := N) (by omega) hlt
      have e1 : kr B P = 2 ^ (B - N) + kr B Q := by rw [kr_perm hp, kr_cons]
      have e2 : kr B ((c, N - 1) :: Q) = 2 ^ (B - N + 1) + kr B Q := by
        rw [kr_cons]
        show 2 ^ (B - (N - 1)) + _ = _
        rw [show B - (N - 1) = B - N + 1 from by omega]
      have hk' : kr B ((c, N - 1) :: Q) ≤ 2 ^ B := by
        rw [e2]
        have := fill hd (Nat.pow_dvd_pow 2 (show B - N + 1 ≤ B by omega)) (Nat.two_pow_pos (B - N)) (by omega)
        omega
      have hsum : (((c, N - 1) :: Q : Ps).map (·.2)).sum < S := by
        have := (hp.map (·.2)).sum_nat
        rw [hS] at this
        simp only [List.map_cons, List.sum_cons] at this ⊢
        omega
      have hlen : 2 ≤ ((c, N - 1) :: Q : Ps).length := by
        have := hp.length_eq
        rw [List.length_cons] at this ⊢
        omega
      obtain ⟨P', N', c', d', Q', i1, i2, i3, i4, i5, i6, i7⟩ := ih _ hsum ((c, N - 1) :: Q) rfl hlen (fun x hx => by
        rcases List.mem_cons.1 hx with rfl | hx
        · show N - 1 ≤ B
          omega
        · have := hlt x hx
          omega) hk'
      refine ⟨P', N', c', d', Q', ?_, ?_, i3, i4, i5, i6, i7⟩
      · exact i1.trans (hp.map (·.1)).symm
      · have h5 : cost ((c, N - 1) :: Q) ≤ cost P := by
          rw [cost_perm hp, cost_cons, cost_cons]
          have := Nat.mul_le_mul_left c (show N - 1 ≤ N by omega)
          exact Nat.add_le_add_right this _
        omega
/-- the least weight may be taken to have the greatest length -/
theorem swap {B a x N : Nat} {R : Ps} (ha : ∀ y ∈ R, a ≤ y.1) (hx : x ≤ N) (hN : x = N ∨ N ∈ R.map (·.2)) :
    ∃ R', (R'.map (·.1)).Perm (R.map (·.1)) ∧ (N :: R'.map (·.2)).Perm (x :: R.map (·.2)) ∧ cost ((a, N) :: R') ≤ cost ((a, x) :: R) ∧ kr B ((a, N) :: R') = kr B ((a, x) :: R) := by
  by_cases e : x = N
  · subst e
    exact ⟨R, .refl _, .refl _, Nat.le_refl _, rfl⟩
  · obtain ⟨c, Q, hp⟩ := split2 (hN.resolve_left e)
    have hac : a ≤ c := ha (c, N) (hp.mem_iff.2 List.mem_cons_self)
    refine ⟨(c, x) :: Q, (hp.map (·.1)).symm, ?_, ?_, ?_⟩
    · have := (hp.map (·.2)).symm.cons x
      exact (List.Perm.swap _ _ _).trans this
    · rw [cost_cons, cost_cons, cost_cons, cost_perm hp, cost_cons]
      dsimp only
      obtain ⟨u, rfl⟩ := Nat.le.dest hac
      obtain ⟨v, rfl⟩ := Nat.le.dest hx
      simp only [Nat.add_mul, Nat.mul_add]
      omega
    · rw [kr_cons, kr_cons, kr_cons, kr_perm hp, kr_cons]
      dsimp only
      omega
/-- HUFFMAN -/
theorem huff {ws : List Nat} {k : Nat} (h : HC ws k) (B : Nat) : ∀ P : Ps, (P.map (·.1)).Perm ws → (∀ x ∈ P, x.2 ≤ B) → kr B P ≤ 2 ^ B → k ≤ cost P := by
  induction h using HC.ind with
  | one w => exact fun _ _ _ _ => Nat.zero_le _
  | @step ws R a b k hp hab hR _ ih =>
    intro P hP hB hk
    have hl : 2 ≤ P.length := by
      have h1 := hP.length_eq
      have h2 := hp.length_eq
      rw [List.length_map] at h1
      simp only [List.length_cons] at h2
      omega
    obtain ⟨P1, N, c, d, Q, w1, c1, k1, l1, n1, nB, p1⟩ := level B _ P rfl hl hB hk
    obtain ⟨x, R1, q1, r1⟩ := split (w1.trans (hP.trans hp))
    have hR1 : ∀ y ∈ R1, a ≤ y.1 := fun y hy => by
      have hm : y.1 ∈ b :: R := r1.mem_iff.1 (List.mem_map_of_mem hy)
      rcases List.mem_cons.1 hm with e | hm
      · omega
      · have := hR _ hm
        omega
    have hx : x ≤ N := l1 (a, x) (q1.mem_iff.2 List.mem_cons_self)
    have hlen1 : (x :: R1.map (·.2)).Perm (N :: N :: Q.map (·.2)) := by
      have h1 : (P1.map (·.2)).Perm (x :: R1.map (·.2)) := q1.map (·.2)
      have h2 : (P1.map (·.2)).Perm (N :: N :: Q.map (·.2)) := p1.map (·.2)
      exact h1.symm.trans h2
    have hN1 : x = N ∨ N ∈ R1.map (·.2) := by
      have hm : N ∈ x :: R1.map (·.2) := hlen1.mem_iff.2 List.mem_cons_self
      rcases List.mem_cons.1 hm with e | hm
      · exact .inl e.symm
      · exact .inr hm
    obtain ⟨R2, w2, s2, c2, k2⟩ := swap (B := B) hR1 hx hN1
    have hs2 : (R2.map (·.2)).Perm (N :: Q.map (·.2)) := (s2.trans hlen1).cons_inv
    obtain ⟨y, R3, q3, r3⟩ := split (w2.trans r1)
    have hR3 : ∀ z ∈ R3, b ≤ z.1 := fun z hz => hR _ (r3.mem_iff.1 (List.mem_map_of_mem hz))
    have hlen3 : (y :: R3.map (·.2)).Perm (N :: Q.map (·.2)) := by
      have h1 : (R2.map (·.2)).Perm (y :: R3.map (·.2)) := q3.map (·.2)
      exact h1.symm.trans hs2
    have hQ : ∀ n ∈ Q.map (·.2), n ≤ N := fun n hn => by
      obtain ⟨z, hz, rfl⟩ := List.mem_map.1 hn
      exact l1 z (p1.mem_iff.2 (List.mem_cons_of_mem _ (List.mem_cons_of_mem _ hz)))
    have hy : y ≤ N := by
      have hm : y ∈ N :: Q.map (·.2) := hlen3.mem_iff.1 List.mem_cons_self
      rcases List.mem_cons.1 hm with e | hm
      · omega
      · exact hQ y hm
    have hN3 : y = N ∨ N ∈ R3.map (·.2) := by
      have hm : N ∈ y :: R3.map (·.2) := hlen3.mem_iff.2 List.mem_cons_self
      rcases List.mem_cons.1 hm with e | hm
      · exact .inl e.symm
      · exact .inr hm
    obtain ⟨R4, w4, s4, c4, k4⟩ := swap (B := B) hR3 hy hN3
    have hs4 : (R4.map (·.2)).Perm (Q.map (·.2)) := (s4.trans hlen3).cons_inv
    have hR4 : ∀ z ∈ R4, z.2 ≤ N := fun z hz => hQ _ (hs4.mem_iff.1 (List.mem_map_of_mem hz))
    have e2 : 2 ^ (B - (N - 1)) = 2 ^ (B - N) + 2 ^ (B - N) := by
      rw [show B - (N - 1) = B - N + 1 from by omega, Nat.pow_succ]
      omega
    have hcost1 := cost_perm q1
    have hcost3 := cost_perm q3
    have hkr1 := kr_perm (B := B) q1
    have hkr3 := kr_perm (B := B) q3
    simp only [cost_cons, kr_cons] at c2 k2 c4 k4 hcost1 hcost3 hkr1 hkr3
    have := ih ((a + b, N - 1) :: R4) ((w4.trans r3).cons _) (fun z hz => by
      rcases List.mem_cons.1 hz with rfl | hz
      · show N - 1 ≤ B
        omega
      · have := hR4 z hz
        omega) (by rw [kr_cons]; dsimp only; omega)
    rw [cost_cons] at this
    dsimp only at this
    obtain ⟨M, rfl⟩ : ∃ M, N = M + 1 := ⟨N - 1, by omega⟩
    rw [show M + 1 - 1 = M from rfl, Nat.add_mul] at this
    rw [Nat.mul_succ] at c2 c4
    omega
end Hf
end Go.Proofs.Ytgdkfaphbbdnbaa
