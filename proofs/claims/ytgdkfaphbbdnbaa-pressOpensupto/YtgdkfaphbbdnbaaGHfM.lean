/-
  Codes (no Go in it): HUFFMAN: heaps that are made one, always two of the least weight, have the least total.
  Codes (no Go in it): the lengths that heaps made one have: their total, their Kraft sum, their order, their bound.
  Codes (no Go in it): heaps of signs that are made one, and the lengths that signs get by it.
  Codes (no Go in it): KRAFT, McMILLAN: lengths whose sum is no more than a whole have codes, none the beginning of another.
  Codes (no Go in it): codes given out length by length are those of the sums over all that come ahead.
  Heaps of signs kept in a list as a binary tree (no program in it): putting one in, taking the least out.
  Making the two least heaps one, again and again (no program in it): what stays true, and the lengths that come of it.
  P19's lengths (no program in it): who is there has one, the whole is filled, more frequent is no longer, no total is smaller.
-/
import Derived.WalkKit

namespace Go.Proofs.Ytgdkfaphbbdnbaa
namespace Hf

/-- weights and lengths -/
abbrev Ps := List (Nat × Nat)
def cost (P : Ps) : Nat := (P.map fun x => x.1 * x.2).sum
def kr (B : Nat) (P : Ps) : Nat := (P.map fun x => 2 ^ (B - x.2)).sum
theorem cost_cons (x : Nat × Nat) (P : Ps) : cost (x :: P) = x.1 * x.2 + cost P := by simp [cost]
theorem kr_cons (B : Nat) (x : Nat × Nat) (P : Ps) : kr B (x :: P) = 2 ^ (B - x.2) + kr B P := by simp [kr]
theorem cost_perm {P Q : Ps} (h : P.Perm Q) : cost P = cost Q := (h.map _).sum_nat
theorem kr_perm {B : Nat} {P Q : Ps} (h : P.Perm Q) : kr B P = kr B Q := (h.map _).sum_nat
/-- what making all heaps one costs: always two of the least weight -/
def HC (ws : List Nat) (k : Nat) : Prop := ∀ M : List Nat → Nat → Prop, (∀ w, M [w] 0) → (∀ ws R a b k, ws.Perm (a :: b :: R) → a ≤ b → (∀ c ∈ R, b ≤ c) → M ((a + b) :: R) k → M ws (k + (a + b))) → M ws k
theorem HC.one (w : Nat) : HC [w] 0 := fun _ h1 _ => h1 w
theorem HC.step {ws R : List Nat} {a b k : Nat} (hp : ws.Perm (a :: b :: R)) (hab : a ≤ b) (hR : ∀ c ∈ R, b ≤ c) (h : HC ((a + b) :: R) k) : HC ws (k + (a + b)) :=
  fun M h1 h2 => h2 _ _ _ _ _ hp hab hR (h M h1 h2)
theorem HC.ind {M : ∀ ws k, HC ws k → Prop} (one : ∀ w, M [w] 0 (HC.one w))
    (step : ∀ {ws R : List Nat} {a b k : Nat} (hp : ws.Perm (a :: b :: R)) (hab : a ≤ b) (hR : ∀ c ∈ R, b ≤ c) (h : HC ((a + b) :: R) k) (_ : M _ _ h), M ws (k + (a + b)) (HC.step hp hab hR h))
    {ws : List Nat} {k : Nat} (h : HC ws k) : M ws k h := by
  obtain ⟨_, e⟩ := h (fun ws k => ∃ h : HC ws k, M ws k h) (fun w => ⟨.one w, one w⟩) (fun _ _ _ _ _ hp hab hR ⟨h, e⟩ => ⟨.step hp hab hR h, step hp hab hR h e⟩)
  exact e

theorem split {P : Ps} {a : Nat} {R : List Nat} (h : (P.map (·.1)).Perm (a :: R)) : ∃ x Q, P.Perm ((a, x) :: Q) ∧ (Q.map (·.1)).Perm R := by
  have hm : a ∈ P.map (·.1) := h.mem_iff.2 List.mem_cons_self
  obtain ⟨⟨a', x⟩, hx, rfl⟩ := List.mem_map.1 hm
  have hp := List.perm_cons_erase hx
  refine ⟨x, P.erase (a', x), hp, ?_⟩
  have := (hp.map (·.1)).symm.trans h
  exact List.Perm.cons_inv this
theorem split2 {P : Ps} {N : Nat} (h : N ∈ P.map (·.2)) : ∃ c Q, P.Perm ((c, N) :: Q) := by
  obtain ⟨⟨c, N'⟩, hx, rfl⟩ := List.mem_map.1 h
  exact ⟨c, _, List.perm_cons_erase hx⟩
theorem max_of : ∀ (l : List Nat), l ≠ [] → ∃ N, N ∈ l ∧ ∀ n ∈ l, n ≤ N
  | [], h => absurd rfl h
  | [n], _ => ⟨n, List.mem_cons_self, fun m hm => by rw [List.mem_singleton.1 hm]; exact Nat.le_refl _⟩
  | n :: m :: l, _ => by
    obtain ⟨N, h1, h2⟩ := max_of (m :: l) (by simp)
    by_cases h : n ≤ N
    · refine ⟨N, List.mem_cons_of_mem _ h1, fun k hk => ?_⟩
      rcases List.mem_cons.1 hk with rfl | hk
      · exact h
      · exact h2 k hk
    · refine ⟨n, List.mem_cons_self, fun k hk => ?_⟩
      rcases List.mem_cons.1 hk with rfl | hk
      · exact Nat.le_refl _
      · have := h2 k hk
        omega
theorem kr_dvd {B N : Nat} (hN : N + 1 ≤ B + 1) {P : Ps} (h : ∀ x ∈ P, x.2 < N) : 2 ^ (B - N + 1) ∣ kr B P := by
  induction P with
  | nil => exact Nat.dvd_zero _
  | cons x P ih =>
    rw [kr_cons]
    have hx := h x List.mem_cons_self
    exact Nat.dvd_add (Nat.pow_dvd_pow 2 (by omega)) (ih fun y hy => h y (List.mem_cons_of_mem _ hy))
theorem fill {S e D T : Nat} (h1 : D ∣ S) (h2 : D ∣ T) (he : 0 < e) (h : S + e ≤ T) : S + D ≤ T := by
  obtain ⟨s, rfl⟩ := h1
  obtain ⟨t, rfl⟩ := h2
  have hlt : s < t := by
    apply Classical.byContradiction
    intro hn
    have := Nat.mul_le_mul_left D (show t ≤ s by omega)
    omega
  have := Nat.mul_le_mul_left D (show s + 1 ≤ t by omega)
  rw [Nat.mul_add, Nat.mul_one] at this
  exact this
theorem kr_zero {B : Nat} {P : Ps} (h : ∀ x ∈ P, x.2 ≤ 0) : kr B P = P.length * 2 ^ B := by
  induction P with
  | nil => simp [kr]
  | cons x P ih =>
    have hx := h x List.mem_cons_self
    rw [kr_cons, ih fun y hy => h y (List.mem_cons_of_mem _ hy), show x.2 = 0 from by omega, List.length_cons, Nat.succ_mul, Nat.sub_zero]
    omega
/-- the greatest length may be taken to be there twice -/
theorem level (B S : Nat) (P : Ps) (hS : (P.map (·.2)).sum = S) (hl : 2 ≤ P.length) (hB : ∀ x ∈ P, x.2 ≤ B) (hk : kr B P ≤ 2 ^ B) :
    ∃ P' N c d Q, (P'.map (·.1)).Perm (P.map (·.1)) ∧ cost P' ≤ cost P ∧ kr B P' ≤ 2 ^ B ∧ (∀ x ∈ P', x.2 ≤ N) ∧ 1 ≤ N ∧ N ≤ B ∧ P'.Perm ((c, N) :: (d, N) :: Q) := by
  induction S using Nat.strongRecOn generalizing P with
  | ind S ih =>
    obtain ⟨N, hN1, hN2⟩ := max_of (P.map (·.2)) (by intro e; rw [List.map_eq_nil_iff] at e; rw [e] at hl; simp at hl)
    have hle : ∀ x ∈ P, x.2 ≤ N := fun x hx => hN2 _ (List.mem_map_of_mem hx)
    have hNB : N ≤ B := by
      obtain ⟨x, hx, rfl⟩ := List.mem_map.1 hN1
      exact hB x hx
    have h1 : 1 ≤ N := by
      apply Classical.byContradiction
      intro h0
      have := kr_zero (B := B) (P := P) fun x hx => by have := hle x hx; omega
      rw [this] at hk
      have h3 := Nat.mul_le_mul_right (2 ^ B) hl
      have h4 := Nat.two_pow_pos B
      omega
    obtain ⟨c, Q, hp⟩ := split2 hN1
    have hQle : ∀ x ∈ Q, x.2 ≤ N := fun x hx => hle x (hp.mem_iff.2 (List.mem_cons_of_mem _ hx))
    by_cases hQ : N ∈ Q.map (·.2)
    · obtain ⟨d, R, hq⟩ := split2 hQ
      exact ⟨P, N, c, d, R, .refl _, Nat.le_refl _, hk, hle, h1, hNB, hp.trans (hq.cons _)⟩
    · have hlt : ∀ x ∈ Q, x.2 < N := fun x hx => by
        have h2 := hQle x hx
        have h3 : x.2 ≠ N := fun e => hQ (e ▸ List.mem_map_of_mem hx)
        omega
      have hd := kr_dvd (B := B) (N := N) (by omega) hlt
      have e1 : kr B P = 2 ^ (B - N) + kr B Q := by rw [kr_perm hp, kr_cons]
      have e2 : kr B ((c, N - 1) :: Q) = 2 ^ (B - N + 1) + kr B Q := by
        rw [kr_cons]
        show 2 ^ (B - (N - 1)) + _ = _
        rw [show B - (N - 1) = B - N + 1 from by omega]
      have hk' : kr B ((c, N - 1) :: Q) ≤ 2 ^ B := by
        rw [e2]
        have := fill hd (Nat.pow_dvd_pow 2 (show B - N + 1 ≤ B by omega)) (Nat.two_pow_pos (B - N)) (by omega)
        omega
      have hsum : (((c, N - 1) :: Q : Ps).map (·.2)).sum < S := by
        have := (hp.map (·.2)).sum_nat
        rw [hS] at this
        simp only [List.map_cons, List.sum_cons] at this ⊢
        omega
      have hlen : 2 ≤ ((c, N - 1) :: Q : Ps).length := by
        have := hp.length_eq
        rw [List.length_cons] at this ⊢
        omega
      obtain ⟨P', N', c', d', Q', i1, i2, i3, i4, i5, i6, i7⟩ := ih _ hsum ((c, N - 1) :: Q) rfl hlen (fun x hx => by
        rcases List.mem_cons.1 hx with rfl | hx
        · show N - 1 ≤ B
          omega
        · have := hlt x hx
          omega) hk'
      refine ⟨P', N', c', d', Q', ?_, ?_, i3, i4, i5, i6, i7⟩
      · exact i1.trans (hp.map (·.1)).symm
      · have h5 : cost ((c, N - 1) :: Q) ≤ cost P := by
          rw [cost_perm hp, cost_cons, cost_cons]
          have := Nat.mul_le_mul_left c (show N - 1 ≤ N by omega)
          exact Nat.add_le_add_right this _
        omega
/-- the least weight may be taken to have the greatest length -/
theorem swap {B a x N : Nat} {R : Ps} (ha : ∀ y ∈ R, a ≤ y.1) (hx : x ≤ N) (hN : x = N ∨ N ∈ R.map (·.2)) :
    ∃ R', (R'.map (·.1)).Perm (R.map (·.1)) ∧ (N :: R'.map (·.2)).Perm (x :: R.map (·.2)) ∧ cost ((a, N) :: R') ≤ cost ((a, x) :: R) ∧ kr B ((a, N) :: R') = kr B ((a, x) :: R) := by
  by_cases e : x = N
  · subst e
    exact ⟨R, .refl _, .refl _, Nat.le_refl _, rfl⟩
  · obtain ⟨c, Q, hp⟩ := split2 (hN.resolve_left e)
    have hac : a ≤ c := ha (c, N) (hp.mem_iff.2 List.mem_cons_self)
    refine ⟨(c, x) :: Q, (hp.map (·.1)).symm, ?_, ?_, ?_⟩
    · have := (hp.map (·.2)).symm.cons x
      exact (List.Perm.swap _ _ _).trans this
    · rw [cost_cons, cost_cons, cost_cons, cost_perm hp, cost_cons]
      dsimp only
      obtain ⟨u, rfl⟩ := Nat.le.dest hac
      obtain ⟨v, rfl⟩ := Nat.le.dest hx
      simp only [Nat.add_mul, Nat.mul_add]
      omega
    · rw [kr_cons, kr_cons, kr_cons, kr_perm hp, kr_cons]
      dsimp only
      omega
/-- HUFFMAN -/
theorem huff {ws : List Nat} {k : Nat} (h : HC ws k) (B : Nat) : ∀ P : Ps, (P.map (·.1)).Perm ws → (∀ x ∈ P, x.2 ≤ B) → kr B P ≤ 2 ^ B → k ≤ cost P := by
  induction h using HC.ind with
  | one w => exact fun _ _ _ _ => Nat.zero_le _
  | @step ws R a b k hp hab hR _ ih =>
    intro P hP hB hk
    have hl : 2 ≤ P.length := by
      have h1 := hP.length_eq
      have h2 := hp.length_eq
      rw [List.length_map] at h1
      simp only [List.length_cons] at h2
      omega
    obtain ⟨P1, N, c, d, Q, w1, c1, k1, l1, n1, nB, p1⟩ := level B _ P rfl hl hB hk
    obtain ⟨x, R1, q1, r1⟩ := split (w1.trans (hP.trans hp))
    have hR1 : ∀ y ∈ R1, a ≤ y.1 := fun y hy => by
      have hm : y.1 ∈ b :: R := r1.mem_iff.1 (List.mem_map_of_mem hy)
      rcases List.mem_cons.1 hm with e | hm
      · omega
      · have := hR _ hm
        omega
    have hx : x ≤ N := l1 (a, x) (q1.mem_iff.2 List.mem_cons_self)
    have hlen1 : (x :: R1.map (·.2)).Perm (N :: N :: Q.map (·.2)) := by
      have h1 : (P1.map (·.2)).Perm (x :: R1.map (·.2)) := q1.map (·.2)
      have h2 : (P1.map (·.2)).Perm (N :: N :: Q.map (·.2)) := p1.map (·.2)
      exact h1.symm.trans h2
    have hN1 : x = N ∨ N ∈ R1.map (·.2) := by
      have hm : N ∈ x :: R1.map (·.2) := hlen1.mem_iff.2 List.mem_cons_self
      rcases List.mem_cons.1 hm with e | hm
      · exact .inl e.symm
      · exact .inr hm
    obtain ⟨R2, w2, s2, c2, k2⟩ := swap (B := B) hR1 hx hN1
    have hs2 : (R2.map (·.2)).Perm (N :: Q.map (·.2)) := (s2.trans hlen1).cons_inv
    obtain ⟨y, R3, q3, r3⟩ := split (w2.trans r1)
    have hR3 : ∀ z ∈ R3, b ≤ z.1 := fun z hz => hR _ (r3.mem_iff.1 (List.mem_map_of_mem hz))
    have hlen3 : (y :: R3.map (·.2)).Perm (N :: Q.map (·.2)) := by
      have h1 : (R2.map (·.2)).Perm (y :: R3.map (·.2)) := q3.map (·.2)
      exact h1.symm.trans hs2
    have hQ : ∀ n ∈ Q.map (·.2), n ≤ N := fun n hn => by
      obtain ⟨z, hz, rfl⟩ := List.mem_map.1 hn
      exact l1 z (p1.mem_iff.2 (List.mem_cons_of_mem _ (List.mem_cons_of_mem _ hz)))
    have hy : y ≤ N := by
      have hm : y ∈ N :: Q.map (·.2) := hlen3.mem_iff.1 List.mem_cons_self
      rcases List.mem_cons.1 hm with e | hm
      · omega
      · exact hQ y hm
    have hN3 : y = N ∨ N ∈ R3.map (·.2) := by
      have hm : N ∈ y :: R3.map (·.2) := hlen3.mem_iff.2 List.mem_cons_self
      rcases List.mem_cons.1 hm with e | hm
      · exact .inl e.symm
      · exact .inr hm
    obtain ⟨R4, w4, s4, c4, k4⟩ := swap (B := B) hR3 hy hN3
    have hs4 : (R4.map (·.2)).Perm (Q.map (·.2)) := (s4.trans hlen3).cons_inv
    have hR4 : ∀ z ∈ R4, z.2 ≤ N := fun z hz => hQ _ (hs4.mem_iff.1 (List.mem_map_of_mem hz))
    have e2 : 2 ^ (B - (N - 1)) = 2 ^ (B - N) + 2 ^ (B - N) := by
      rw [show B - (N - 1) = B - N + 1 from by omega, Nat.pow_succ]
      omega
    have hcost1 := cost_perm q1
    have hcost3 := cost_perm q3
    have hkr1 := kr_perm (B := B) q1
    have hkr3 := kr_perm (B := B) q3
    simp only [cost_cons, kr_cons] at c2 k2 c4 k4 hcost1 hcost3 hkr1 hkr3
    have := ih ((a + b, N - 1) :: R4) ((w4.trans r3).cons _) (fun z hz => by
      rcases List.mem_cons.1 hz with rfl | hz
      · show N - 1 ≤ B
        omega
      · have := hR4 z hz
        omega) (by rw [kr_cons]; dsimp only; omega)
    rw [cost_cons] at this
    dsimp only at this
    obtain ⟨M, rfl⟩ : ∃ M, N = M + 1 := ⟨N - 1, by omega⟩
    rw [show M + 1 - 1 = M from rfl, Nat.add_mul] at this
    rw [Nat.mul_succ] at c2 c4
    omega
end Hf
end Go.Proofs.Ytgdkfaphbbdnbaa

namespace Go.Proofs.Ytgdkfaphbbdnbaa
namespace Hf

/-- weights with the lengths that come of making one always two of the least weight -/
def HP (P : Ps) : Prop := ∀ M : Ps → Prop, (∀ w, M [(w, 0)]) → (∀ (P R : Ps) (a b n : Nat), P.Perm ((a, n + 1) :: (b, n + 1) :: R) → a ≤ b → (∀ c ∈ R, b ≤ c.1) → M ((a + b, n) :: R) → M P) → M P
theorem HP.one (w : Nat) : HP [(w, 0)] := fun _ h1 _ => h1 w
theorem HP.step {P R : Ps} {a b n : Nat} (hp : P.Perm ((a, n + 1) :: (b, n + 1) :: R)) (hab : a ≤ b) (hR : ∀ c ∈ R, b ≤ c.1) (h : HP ((a + b, n) :: R)) : HP P :=
  fun M h1 h2 => h2 _ _ _ _ _ hp hab hR (h M h1 h2)
theorem HP.ind {M : ∀ P, HP P → Prop} (one : ∀ w, M [(w, 0)] (HP.one w))
    (step : ∀ {P R : Ps} {a b n : Nat} (hp : P.Perm ((a, n + 1) :: (b, n + 1) :: R)) (hab : a ≤ b) (hR : ∀ c ∈ R, b ≤ c.1) (h : HP ((a + b, n) :: R)) (_ : M _ h), M P (HP.step hp hab hR h))
    {P : Ps} (h : HP P) : M P h := by
  obtain ⟨_, e⟩ := h (fun P => ∃ h : HP P, M P h) (fun w => ⟨.one w, one w⟩) (fun _ _ _ _ _ hp hab hR ⟨h, e⟩ => ⟨.step hp hab hR h, step hp hab hR h e⟩)
  exact e
theorem HP.perm {P Q : Ps} (h : HP P) (hq : Q.Perm P) : HP Q := by
  induction h using HP.ind with
  | one w =>
    obtain rfl := List.perm_singleton.1 hq
    exact .one w
  | step hp hab hR h _ => exact .step (hq.trans hp) hab hR h
theorem HP.hc {P : Ps} (h : HP P) : HC (P.map (·.1)) (cost P) := by
  induction h using HP.ind with
  | one w =>
    have : cost [(w, 0)] = 0 := by simp [cost]
    rw [this]
    exact .one w
  | @step P R a b n hp hab hR h ih =>
    have e : cost P = cost ((a + b, n) :: R) + (a + b) := by
      rw [cost_perm hp]
      simp only [cost_cons, Nat.mul_add, Nat.add_mul]
      omega
    rw [e]
    refine .step (hp.map (·.1)) hab (fun c hc => ?_) ih
    obtain ⟨x, hx, rfl⟩ := List.mem_map.1 hc
    exact hR x hx
theorem HP.least {P Q : Ps} (h : HP P) (hq : (Q.map (·.1)).Perm (P.map (·.1))) (B : Nat) (hB : ∀ x ∈ Q, x.2 ≤ B) (hk : kr B Q ≤ 2 ^ B) : cost P ≤ cost Q := huff h.hc B Q hq hB hk
theorem HP.kraft {P : Ps} (h : HP P) (B : Nat) (hB : ∀ x ∈ P, x.2 ≤ B) : kr B P = 2 ^ B := by
  induction h using HP.ind with
  | one w => simp [kr]
  | @step P R a b n hp hab hR h ih =>
    have h1 : n + 1 ≤ B := hB (a, n + 1) (hp.mem_iff.2 List.mem_cons_self)
    have := ih fun x hx => by
      rcases List.mem_cons.1 hx with rfl | hx
      · show n ≤ B
        omega
      · exact hB x (hp.mem_iff.2 (List.mem_cons_of_mem _ (List.mem_cons_of_mem _ hx)))
    rw [kr_perm hp]
    simp only [kr_cons] at this ⊢
    rw [show B - n = B - (n + 1) + 1 from by omega, Nat.pow_succ] at this
    omega
/-- who is more frequent has no longer code -/
theorem HP.order {P : Ps} (h : HP P) (B : Nat) (hB : ∀ x ∈ P, x.2 ≤ B) {x y : Nat × Nat} {R : Ps} (hp : P.Perm (x :: y :: R)) (hxy : x.1 < y.1) : y.2 ≤ x.2 := by
  apply Classical.byContradiction
  intro hn
  obtain ⟨a, n⟩ := x
  obtain ⟨b, m⟩ := y
  have hab : a < b := hxy
  have hnm : n < m := Nat.lt_of_not_le hn
  have hk := h.kraft B hB
  have hle := h.least (Q := (a, m) :: (b, n) :: R) (hp.map (·.1)).symm B (fun z hz => by
    have h1 : n ≤ B := hB (a, n) (hp.mem_iff.2 List.mem_cons_self)
    have h2 : m ≤ B := hB (b, m) (hp.mem_iff.2 (List.mem_cons_of_mem _ List.mem_cons_self))
    rcases List.mem_cons.1 hz with rfl | hz
    · exact h2
    · rcases List.mem_cons.1 hz with rfl | hz
      · exact h1
      · exact hB z (hp.mem_iff.2 (List.mem_cons_of_mem _ (List.mem_cons_of_mem _ hz)))) (by
    rw [kr_perm hp] at hk
    simp only [kr_cons] at hk ⊢
    omega)
  rw [cost_perm hp] at hle
  simp only [cost_cons] at hle
  obtain ⟨u, rfl⟩ := Nat.le.dest (show a + 1 ≤ b from hab)
  obtain ⟨v, rfl⟩ := Nat.le.dest (show n + 1 ≤ m from hnm)
  simp only [Nat.add_mul, Nat.mul_add, Nat.one_mul, Nat.mul_one] at hle
  have := Nat.zero_le (u * v)
  omega

/-! ### FIBONACCI: a great length wants a great weight -/
def fb : Nat → Nat → Nat → Nat
  | 0, u, _ => u
  | D + 1, u, m => fb D (u + m) (max u m)
theorem fb_mono (D : Nat) {u u' m m' : Nat} (h1 : u ≤ u') (h2 : m ≤ m') : fb D u m ≤ fb D u' m' := by
  induction D generalizing u u' m m' with
  | zero => exact h1
  | succ D ih => exact ih (by omega) (by omega)
theorem HP.fib {P : Ps} (h : HP P) {x : Nat × Nat} {R : Ps} {m : Nat} (hp : P.Perm (x :: R)) (hm : ∀ y ∈ R, m ≤ y.1) : fb x.2 x.1 m ≤ (P.map (·.1)).sum := by
  induction h using HP.ind generalizing x R m with
  | one w =>
    obtain ⟨rfl, rfl⟩ : x = (w, 0) ∧ R = [] := by
      have := List.singleton_perm.1 hp
      exact ⟨by injection this with h1 h2; exact h1.symm, by injection this with h1 h2; exact h2.symm⟩
    simp [fb]
  | @step P S a b n hq hab hS h ih =>
    have hsum : (P.map (·.1)).sum = (((a + b, n) :: S : Ps).map (·.1)).sum := by
      have := (hq.map (·.1)).sum_nat
      simp only [List.map_cons, List.sum_cons] at this ⊢
      omega
    rw [hsum]
    have hpq := hp.symm.trans hq
    have hx : x ∈ (a, n + 1) :: (b, n + 1) :: S := hpq.mem_iff.1 List.mem_cons_self
    rcases List.mem_cons.1 hx with rfl | hx
    · have hR := hpq.cons_inv
      have hb : m ≤ b := hm (b, n + 1) (hR.mem_iff.2 List.mem_cons_self)
      have := ih (.refl _) hS
      refine Nat.le_trans ?_ this
      show fb n (a + m) (max a m) ≤ fb n (a + b) b
      exact fb_mono n (by omega) (by omega)
    · rcases List.mem_cons.1 hx with rfl | hx
      · have hR := (hpq.trans (List.Perm.swap _ _ _)).cons_inv
        have ha : m ≤ a := hm (a, n + 1) (hR.mem_iff.2 List.mem_cons_self)
        have := ih (.refl _) hS
        refine Nat.le_trans ?_ this
        show fb n (b + m) (max b m) ≤ fb n (a + b) b
        exact fb_mono n (by omega) (by omega)
      · have he := List.perm_cons_erase hx
        have h1 : R.Perm ((a, n + 1) :: (b, n + 1) :: S.erase x) := by
          have h2 : ((a, n + 1) :: (b, n + 1) :: S).Perm (x :: (a, n + 1) :: (b, n + 1) :: S.erase x) :=
            ((he.cons _).cons _).trans (((List.Perm.swap _ _ _).cons _).trans (List.Perm.swap _ _ _))
          exact (hpq.trans h2).cons_inv
        refine ih (R := (a + b, n) :: S.erase x) ((he.cons _).trans (List.Perm.swap _ _ _)) fun y hy => ?_
        rcases List.mem_cons.1 hy with rfl | hy
        · have := hm (a, n + 1) (h1.mem_iff.2 List.mem_cons_self)
          show m ≤ a + b
          dsimp only at this
          omega
        · exact hm y (h1.mem_iff.2 (List.mem_cons_of_mem _ (List.mem_cons_of_mem _ hy)))
theorem fb_add (D E u m : Nat) (hu : 1 ≤ u) (h : E ≤ D) : fb E u m ≤ fb D u m := by
  induction D generalizing E u m with
  | zero =>
    obtain rfl : E = 0 := by omega
    exact Nat.le_refl _
  | succ D ih =>
    cases E with
    | zero =>
      refine Nat.le_trans ?_ (ih 0 (u + m) (max u m) (by omega) (Nat.zero_le _))
      show u ≤ u + m
      omega
    | succ E => exact ih E _ _ (by omega) (by omega)
/-- 256 signs of at most 2^20 have lengths of at most 40 -/
theorem HP.bound {P : Ps} (h : HP P) (h1 : ∀ x ∈ P, 1 ≤ x.1) (hs : (P.map (·.1)).sum ≤ 268435456) : ∀ x ∈ P, x.2 ≤ 40 := by
  intro x hx
  apply Classical.byContradiction
  intro hn
  have he := List.perm_cons_erase hx
  have h2 := h.fib (m := 1) he fun y hy => h1 y (List.mem_of_mem_erase hy)
  have h3 := fb_mono x.2 (h1 x hx) (Nat.le_refl 1)
  have h4 := fb_add x.2 41 1 1 (Nat.le_refl 1) (by omega)
  have h5 : fb 41 1 1 = 433494437 := by decide +kernel
  omega
end Hf
end Go.Proofs.Ytgdkfaphbbdnbaa

namespace Go.Proofs.Ytgdkfaphbbdnbaa
namespace Hf

/-- a heap: its weight, its least sign, who is in it -/
structure Hp where
  w : Nat
  low : Nat
  mem : Nat → Bool
def less (a b : Hp) : Prop := a.w < b.w ∨ (a.w = b.w ∧ a.low < b.low)
theorem less_asymm {a b : Hp} (h : less a b) (h' : less b a) : False := by
  unfold less at h h'
  omega
def join (a b : Hp) : Hp := ⟨a.w + b.w, min a.low b.low, fun i => a.mem i || b.mem i⟩
/-- P19: as long as there is more than one heap the two least are made one; how often each sign's heap was made one -/
def Run (H : List Hp) (L : Nat → Nat) : Prop := ∀ M : List Hp → (Nat → Nat) → Prop, (∀ h, M [h] (fun _ => 0)) →
  (∀ (H R : List Hp) (a b : Hp) (L : Nat → Nat), H.Perm (a :: b :: R) → (∀ c ∈ b :: R, less a c) → (∀ c ∈ R, less b c) → M (join a b :: R) L → M H (fun i => (if a.mem i || b.mem i then 1 else 0) + L i)) → M H L
theorem Run.one (h : Hp) : Run [h] (fun _ => 0) := fun _ h1 _ => h1 h
theorem Run.step {H R : List Hp} {a b : Hp} {L : Nat → Nat} (hp : H.Perm (a :: b :: R)) (ha : ∀ c ∈ b :: R, less a c) (hb : ∀ c ∈ R, less b c) (h : Run (join a b :: R) L) :
    Run H (fun i => (if a.mem i || b.mem i then 1 else 0) + L i) := fun M h1 h2 => h2 _ _ _ _ _ hp ha hb (h M h1 h2)
theorem Run.ind {M : ∀ H L, Run H L → Prop} (one : ∀ h, M [h] (fun _ => 0) (Run.one h))
    (step : ∀ {H R : List Hp} {a b : Hp} {L : Nat → Nat} (hp : H.Perm (a :: b :: R)) (ha : ∀ c ∈ b :: R, less a c) (hb : ∀ c ∈ R, less b c) (h : Run (join a b :: R) L) (_ : M _ _ h),
      M H (fun i => (if a.mem i || b.mem i then 1 else 0) + L i) (Run.step hp ha hb h))
    {H : List Hp} {L : Nat → Nat} (h : Run H L) : M H L h := by
  obtain ⟨_, e⟩ := h (fun H L => ∃ h : Run H L, M H L h) (fun w => ⟨.one w, one w⟩) (fun _ _ _ _ _ hp ha hb ⟨h, e⟩ => ⟨.step hp ha hb h, step hp ha hb h e⟩)
  exact e
theorem least_one {a a' : Hp} {R R' : List Hp} (hp : (a :: R).Perm (a' :: R')) (ha : ∀ c ∈ R, less a c) (ha' : ∀ c ∈ R', less a' c) : a = a' ∧ R.Perm R' := by
  have e : a = a' := by
    apply Classical.byContradiction
    intro hn
    have h1 : a ∈ a' :: R' := hp.mem_iff.1 List.mem_cons_self
    have h2 : a' ∈ a :: R := hp.mem_iff.2 List.mem_cons_self
    rcases List.mem_cons.1 h1 with e | h1
    · exact hn e
    rcases List.mem_cons.1 h2 with e | h2
    · exact hn e.symm
    exact less_asymm (ha a' h2) (ha' a h1)
  subst e
  exact ⟨rfl, hp.cons_inv⟩
/-- there is one answer only, in whatever order heaps are kept -/
theorem Run.once {H H' : List Hp} {L L' : Nat → Nat} (h : Run H L) (hp : H.Perm H') (h' : Run H' L') : L = L' := by
  induction h using Run.ind generalizing H' L' with
  | one x =>
    induction h' using Run.ind with
    | one y => rfl
    | step hq _ _ _ _ =>
      have := (hp.trans hq).length_eq
      simp only [List.length_cons, List.length_nil] at this
      omega
  | @step H R a b L hq ha hb h ih =>
    induction h' using Run.ind with
    | one y =>
      have := (hp.symm.trans hq).length_eq
      simp only [List.length_cons, List.length_nil] at this
      omega
    | @step _ R' a' b' L1 hq' ha' hb' h1 _ =>
      obtain ⟨rfl, e⟩ := least_one (hq.symm.trans (hp.trans hq')) ha ha'
      obtain ⟨rfl, e2⟩ := least_one e hb hb'
      rw [ih (e2.cons _) h1]
theorem Run.perm {H H' : List Hp} {L : Nat → Nat} (h : Run H L) (hp : H'.Perm H) : Run H' L := by
  induction h using Run.ind with
  | one x =>
    obtain rfl := List.perm_singleton.1 hp
    exact .one x
  | step hq ha hb h _ => exact .step (hp.trans hq) ha hb h
/-- heaps whose least sign is in them, and of which no two have a sign together -/
structure Apart (H : List Hp) : Prop where
  low : ∀ h ∈ H, h.mem h.low = true
  two : H.Pairwise fun a b => ∀ i, ¬ (a.mem i = true ∧ b.mem i = true)
theorem Apart.perm {H H' : List Hp} (h : Apart H) (hp : H.Perm H') : Apart H' :=
  ⟨fun x hx => h.low x (hp.mem_iff.2 hx), hp.pairwise h.two fun h i ⟨h1, h2⟩ => h i ⟨h2, h1⟩⟩
theorem Apart.join {R : List Hp} {a b : Hp} (h : Apart (a :: b :: R)) : Apart (join a b :: R) := by
  obtain ⟨h1, h2⟩ := h
  obtain ⟨ha, h2⟩ := List.pairwise_cons.1 h2
  obtain ⟨hb, h2⟩ := List.pairwise_cons.1 h2
  refine ⟨fun x hx => ?_, List.pairwise_cons.2 ⟨fun c hc i ⟨hi, hci⟩ => ?_, h2⟩⟩
  · rcases List.mem_cons.1 hx with rfl | hx
    · have e1 := h1 a List.mem_cons_self
      have e2 := h1 b (List.mem_cons_of_mem _ List.mem_cons_self)
      show (a.mem (min a.low b.low) || b.mem (min a.low b.low)) = true
      rcases Nat.le_total a.low b.low with e | e
      · rw [Nat.min_eq_left e, e1]; rfl
      · rw [Nat.min_eq_right e, e2]; simp
    · exact h1 x (List.mem_cons_of_mem _ (List.mem_cons_of_mem _ hx))
  · have hi : (a.mem i || b.mem i) = true := hi
    rcases Bool.or_eq_true_iff.1 hi with e | e
    · exact ha c (List.mem_cons_of_mem _ hc) i ⟨e, hci⟩
    · exact hb c hc i ⟨e, hci⟩
/-- all signs of a heap have one length -/
theorem Run.same {H : List Hp} {L : Nat → Nat} (h : Run H L) (hA : Apart H) : ∀ x ∈ H, ∀ i, x.mem i = true → L i = L x.low := by
  induction h using Run.ind with
  | one y => exact fun _ _ _ _ => rfl
  | @step H R a b L hp ha hb h ih =>
    have hA' := hA.perm hp
    have hJ := hA'.join
    have key := ih hJ
    intro x hx i hi
    obtain ⟨h1, h2⟩ := hA'
    obtain ⟨p1, h2⟩ := List.pairwise_cons.1 h2
    obtain ⟨p2, _⟩ := List.pairwise_cons.1 h2
    have hab : ∀ i, (a.mem i || b.mem i) = true → L i = L (Hf.join a b).low := fun i hi => key _ List.mem_cons_self i hi
    have e1 := h1 a List.mem_cons_self
    have e2 := h1 b (List.mem_cons_of_mem _ List.mem_cons_self)
    show (if a.mem i || b.mem i then 1 else 0) + L i = (if a.mem x.low || b.mem x.low then 1 else 0) + L x.low
    rcases List.mem_cons.1 (hp.mem_iff.1 hx) with rfl | hx
    · rw [hi, e1, hab i (by rw [hi]; rfl), hab x.low (by rw [e1]; rfl)]
      simp
    rcases List.mem_cons.1 hx with rfl | hx
    · rw [hi, e2, hab i (by rw [hi]; simp), hab x.low (by rw [e2]; simp)]
      simp
    · have n1 : ∀ j, x.mem j = true → (a.mem j || b.mem j) = false := fun j hj => by
        rw [Bool.or_eq_false_iff]
        exact ⟨Bool.eq_false_iff.2 fun e => p1 x (List.mem_cons_of_mem _ hx) j ⟨e, hj⟩, Bool.eq_false_iff.2 fun e => p2 x hx j ⟨e, hj⟩⟩
      rw [n1 i hi, n1 x.low (h1 x (List.mem_cons_of_mem _ (List.mem_cons_of_mem _ hx))), key x (List.mem_cons_of_mem _ hx) i hi]
theorem Run.hp {H : List Hp} {L : Nat → Nat} (h : Run H L) (hA : Apart H) : HP (H.map fun x => (x.w, L x.low)) := by
  induction h using Run.ind with
  | one y => exact .one _
  | @step H R a b L hp ha hb h ih =>
    have hA' := hA.perm hp
    have hJ := hA'.join
    have hsame := h.same hJ
    have key : HP ((a.w + b.w, L (Hf.join a b).low) :: R.map fun x => (x.w, L x.low)) := ih hJ
    obtain ⟨h1, h2⟩ := hA'
    obtain ⟨p1, h2⟩ := List.pairwise_cons.1 h2
    obtain ⟨p2, _⟩ := List.pairwise_cons.1 h2
    have e1 := h1 a List.mem_cons_self
    have e2 := h1 b (List.mem_cons_of_mem _ List.mem_cons_self)
    have la : L a.low = L (Hf.join a b).low := hsame _ List.mem_cons_self _ (by show (a.mem a.low || b.mem a.low) = true; rw [e1]; rfl)
    have lb : L b.low = L (Hf.join a b).low := hsame _ List.mem_cons_self _ (by show (a.mem b.low || b.mem b.low) = true; rw [e2]; simp)
    have hRm : (R.map fun x => (x.w, (if a.mem x.low || b.mem x.low then 1 else 0) + L x.low)) = R.map fun x => (x.w, L x.low) := by
      refine List.map_congr_left fun x hx => ?_
      have hxl := h1 x (List.mem_cons_of_mem _ (List.mem_cons_of_mem _ hx))
      have : (a.mem x.low || b.mem x.low) = false := by
        rw [Bool.or_eq_false_iff]
        exact ⟨Bool.eq_false_iff.2 fun e => p1 x (List.mem_cons_of_mem _ hx) _ ⟨e, hxl⟩, Bool.eq_false_iff.2 fun e => p2 x hx _ ⟨e, hxl⟩⟩
      rw [this]
      simp
    refine HP.step (a := a.w) (b := b.w) (n := L (Hf.join a b).low) (R := R.map fun x : Hp => (x.w, L x.low)) ?_ ?_ ?_ key
    · refine (hp.map _).trans ?_
      rw [List.map_cons, List.map_cons, hRm]
      dsimp only
      rw [e1, e2, la, lb]
      simp [Nat.add_comm]
    · have := ha b List.mem_cons_self
      unfold less at this
      omega
    · intro c hc
      obtain ⟨x, hx, rfl⟩ := List.mem_map.1 hc
      have := hb x hx
      unfold less at this
      show b.w ≤ x.w
      omega
end Hf
end Go.Proofs.Ytgdkfaphbbdnbaa

namespace Go.Proofs.Ytgdkfaphbbdnbaa
namespace Hf

def sumIf (L : List Nat) (g : Nat → Nat) (p : Nat → Bool) : Nat := (L.map fun j => if p j then g j else 0).sum
theorem sumIf_cons (x : Nat) (L : List Nat) (g : Nat → Nat) (p : Nat → Bool) : sumIf (x :: L) g p = (if p x then g x else 0) + sumIf L g p := by simp [sumIf]
theorem sumIf_le {L : List Nat} {g : Nat → Nat} {p q : Nat → Bool} (h : ∀ j ∈ L, p j = true → q j = true) : sumIf L g p ≤ sumIf L g q := by
  induction L with
  | nil => exact Nat.le_refl _
  | cons x L ih =>
    have h1 := ih fun j hj => h j (List.mem_cons_of_mem _ hj)
    have h2 := h x List.mem_cons_self
    rw [sumIf_cons, sumIf_cons]
    by_cases hp : p x = true
    · rw [if_pos hp, if_pos (h2 hp)]
      omega
    · rw [if_neg hp]
      omega
theorem sumIf_more {L : List Nat} {g : Nat → Nat} {p q : Nat → Bool} {i : Nat} (hi : i ∈ L) (h : ∀ j ∈ L, p j = true → q j = true) (hp : p i = false) (hq : q i = true) : sumIf L g p + g i ≤ sumIf L g q := by
  induction L with
  | nil => exact absurd hi (by simp)
  | cons x L ih =>
    rw [sumIf_cons, sumIf_cons]
    by_cases hx : x = i
    · subst hx
      have h1 := sumIf_le (g := g) fun j hj => h j (List.mem_cons_of_mem _ hj)
      rw [if_neg (by rw [hp]; simp), if_pos hq]
      omega
    · have h1 := ih (List.mem_of_ne_of_mem (Ne.symm hx) hi) fun j hj => h j (List.mem_cons_of_mem _ hj)
      have h2 := h x List.mem_cons_self
      by_cases hp : p x = true
      · rw [if_pos hp, if_pos (h2 hp)]
        omega
      · rw [if_neg hp]
        omega
theorem sumIf_mul {L : List Nat} {g g' : Nat → Nat} {p : Nat → Bool} {c : Nat} (h : ∀ j ∈ L, p j = true → g j * c = g' j) : sumIf L g p * c = sumIf L g' p := by
  induction L with
  | nil => simp [sumIf]
  | cons x L ih =>
    rw [sumIf_cons, sumIf_cons, Nat.add_mul, ih fun j hj => h j (List.mem_cons_of_mem _ hj)]
    congr 1
    by_cases hp : p x = true
    · rw [if_pos hp, if_pos hp, h x List.mem_cons_self hp]
    · rw [if_neg hp, if_neg hp, Nat.zero_mul]

/-- does j's code come ahead of i's? -/
def ahead (l : List Nat) (i j : Nat) : Bool := decide (0 < l.getD j 0) && (decide (l.getD j 0 < l.getD i 0) || (decide (l.getD j 0 = l.getD i 0) && decide (j < i)))
def ksum (l : List Nat) : Nat := sumIf (List.range l.length) (fun j => 2 ^ (48 - l.getD j 0)) (fun j => decide (0 < l.getD j 0))
def kof (l : List Nat) (i : Nat) : Nat := sumIf (List.range l.length) (fun j => 2 ^ (48 - l.getD j 0)) (ahead l i)
def code (l : List Nat) (i : Nat) : Nat := sumIf (List.range l.length) (fun j => 2 ^ (l.getD i 0 - l.getD j 0)) (ahead l i)
theorem ahead_le {l : List Nat} {i j : Nat} (h : ahead l i j = true) : 0 < l.getD j 0 ∧ l.getD j 0 ≤ l.getD i 0 := by
  simp [ahead] at h ⊢
  omega
theorem code_kof {l : List Nat} {i : Nat} (h : l.getD i 0 ≤ 48) : code l i * 2 ^ (48 - l.getD i 0) = kof l i := by
  refine sumIf_mul fun j _ hj => ?_
  have := ahead_le hj
  rw [← Nat.pow_add]
  congr 1
  omega
theorem kof_sum {l : List Nat} {i : Nat} (hi : i < l.length) (h0 : 0 < l.getD i 0) : kof l i + 2 ^ (48 - l.getD i 0) ≤ ksum l := by
  refine sumIf_more (g := fun j => 2 ^ (48 - l.getD j 0)) (List.mem_range.2 hi) (fun j _ hj => by simpa using (ahead_le hj).1) ?_ (by simpa using h0)
  simp [ahead]
theorem kof_ahead {l : List Nat} {i j : Nat} (hi : i < l.length) (h : ahead l j i = true) : kof l i + 2 ^ (48 - l.getD i 0) ≤ kof l j := by
  refine sumIf_more (g := fun j => 2 ^ (48 - l.getD j 0)) (List.mem_range.2 hi) (fun k _ hk => ?_) ?_ h
  · simp [ahead] at h hk ⊢
    omega
  · simp [ahead]
theorem ahead_or {l : List Nat} {i j : Nat} (hij : i ≠ j) (hi : 0 < l.getD i 0) (hj : 0 < l.getD j 0) : ahead l j i = true ∨ ahead l i j = true := by
  simp [ahead] at hi hj ⊢
  omega
/-- a code has no more bits than its length -/
theorem code_lt {l : List Nat} {i : Nat} (hi : i < l.length) (h0 : 0 < l.getD i 0) (h48 : l.getD i 0 ≤ 48) (hk : ksum l ≤ 2 ^ 48) : code l i < 2 ^ l.getD i 0 := by
  have h1 := kof_sum hi h0
  rw [← code_kof h48] at h1
  have h2 : (code l i + 1) * 2 ^ (48 - l.getD i 0) ≤ 2 ^ l.getD i 0 * 2 ^ (48 - l.getD i 0) := by
    rw [← Nat.pow_add, show l.getD i 0 + (48 - l.getD i 0) = 48 from by omega, Nat.add_mul, Nat.one_mul]
    omega
  exact Nat.le_of_mul_le_mul_right h2 (Nat.two_pow_pos _)
/-- no code is the beginning of another -/
theorem code_free {l : List Nat} {i j : Nat} (hi : i < l.length) (hj : j < l.length) (hij : i ≠ j) (h0 : 0 < l.getD i 0) (hle : l.getD i 0 ≤ l.getD j 0) (h48 : l.getD j 0 ≤ 48) :
    code l j / 2 ^ (l.getD j 0 - l.getD i 0) ≠ code l i := by
  intro e
  have ki := code_kof (l := l) (i := i) (by omega)
  have kj := code_kof (l := l) (i := j) h48
  have hd := Nat.div_add_mod (code l j) (2 ^ (l.getD j 0 - l.getD i 0))
  have hm := Nat.mod_lt (code l j) (Nat.two_pow_pos (l.getD j 0 - l.getD i 0))
  rw [e] at hd
  have hs : 2 ^ (48 - l.getD i 0) = 2 ^ (l.getD j 0 - l.getD i 0) * 2 ^ (48 - l.getD j 0) := by
    rw [← Nat.pow_add]
    congr 1
    omega
  have hP := Nat.two_pow_pos (48 - l.getD j 0)
  have h1 : kof l i ≤ kof l j := by
    rw [← ki, ← kj, hs, ← Nat.mul_assoc]
    refine Nat.mul_le_mul_right _ ?_
    rw [Nat.mul_comm]
    omega
  have h2 : kof l j < kof l i + 2 ^ (48 - l.getD i 0) := by
    rw [← ki, ← kj, hs, ← Nat.mul_assoc, ← Nat.add_mul]
    refine Nat.mul_lt_mul_of_pos_right ?_ hP
    rw [Nat.mul_comm]
    omega
  rcases ahead_or hij h0 (by omega) with h | h
  · have := kof_ahead hi h
    omega
  · have h3 := kof_ahead hj h
    omega
end Hf
end Go.Proofs.Ytgdkfaphbbdnbaa

namespace Go.Proofs.Ytgdkfaphbbdnbaa
namespace Hf

theorem sumIf_append (L M : List Nat) (g : Nat → Nat) (p : Nat → Bool) : sumIf (L ++ M) g p = sumIf L g p + sumIf M g p := by simp [sumIf]
theorem sumIf_succ (n : Nat) (g : Nat → Nat) (p : Nat → Bool) : sumIf (List.range (n + 1)) g p = sumIf (List.range n) g p + if p n then g n else 0 := by
  rw [List.range_succ, sumIf_append]
  simp [sumIf]
theorem sumIf_congr {L : List Nat} {g : Nat → Nat} {p q : Nat → Bool} (h : ∀ j ∈ L, p j = q j) : sumIf L g p = sumIf L g q := by
  unfold sumIf
  congr 1
  exact List.map_congr_left fun j hj => by rw [h j hj]
theorem sumIf_none {L : List Nat} {g : Nat → Nat} {p : Nat → Bool} (h : ∀ j ∈ L, p j = false) : sumIf L g p = 0 := by
  induction L with
  | nil => rfl
  | cons x L ih => rw [sumIf_cons, h x List.mem_cons_self, ih fun j hj => h j (List.mem_cons_of_mem _ hj)]; rfl
theorem sumIf_one {n i : Nat} {g : Nat → Nat} {p q : Nat → Bool} (hi : i < n) (h : ∀ j, j < n → j ≠ i → p j = q j) (hp : p i = false) (hq : q i = true) : sumIf (List.range n) g q = sumIf (List.range n) g p + g i := by
  induction n with
  | zero => omega
  | succ n ih =>
    rw [sumIf_succ, sumIf_succ]
    by_cases e : i = n
    · subst e
      rw [hp, hq, sumIf_congr (q := q) fun j hj => h j (by have := List.mem_range.1 hj; omega) (by have := List.mem_range.1 hj; omega)]
      simp
    · rw [ih (by omega) fun j hj => h j (by omega), h n (by omega) (fun e' => e e'.symm)]
      omega
/-- what the next code of b bits is, when k signs have been looked at -/
def nxt (l : List Nat) (b k : Nat) : Nat := sumIf (List.range l.length) (fun j => 2 ^ (b - l.getD j 0)) (fun j => decide (0 < l.getD j 0) && (decide (l.getD j 0 < b) || (decide (l.getD j 0 = b) && decide (j < k))))
theorem code_nxt (l : List Nat) (i : Nat) : code l i = nxt l (l.getD i 0) i := rfl
theorem nxt_zero (l : List Nat) (k : Nat) : nxt l 0 k = 0 := sumIf_none fun j _ => by simp; omega
theorem nxt_double (l : List Nat) (b : Nat) : nxt l (b + 1) 0 = nxt l b l.length * 2 := by
  unfold nxt
  rw [sumIf_congr (q := fun j => decide (0 < l.getD j 0) && (decide (l.getD j 0 < b) || (decide (l.getD j 0 = b) && decide (j < l.length)))) fun j hj => ?_]
  · refine (sumIf_mul fun j _ hj => ?_).symm
    rw [← Nat.pow_succ]
    congr 1
    simp at hj ⊢
    omega
  · have := List.mem_range.1 hj
    rw [Bool.eq_iff_iff]
    simp
    omega
theorem nxt_hit {l : List Nat} {b k : Nat} (hk : k < l.length) (hb : 0 < b) (h : l.getD k 0 = b) : nxt l b (k + 1) = nxt l b k + 1 := by
  have := sumIf_one (n := l.length) (i := k) (g := fun j => 2 ^ (b - l.getD j 0)) (p := fun j => decide (0 < l.getD j 0) && (decide (l.getD j 0 < b) || (decide (l.getD j 0 = b) && decide (j < k))))
    (q := fun j => decide (0 < l.getD j 0) && (decide (l.getD j 0 < b) || (decide (l.getD j 0 = b) && decide (j < k + 1)))) hk (fun j _ hj => by rw [Bool.eq_iff_iff]; simp; omega) (by rw [h]; simp) (by rw [h]; simp; omega)
  unfold nxt
  rw [this, h, Nat.sub_self]
theorem nxt_miss {l : List Nat} {b k : Nat} (h : l.getD k 0 ≠ b) : nxt l b (k + 1) = nxt l b k := by
  refine sumIf_congr fun j _ => ?_
  by_cases e : j = k
  · subst e
    simp at h ⊢
    simp [h]
  · rw [Bool.eq_iff_iff]
    simp
    omega
theorem nxt_le {l : List Nat} {b k : Nat} (hb : b ≤ 48) (h : ksum l ≤ 2 ^ 48) : nxt l b k ≤ 2 ^ b := by
  have h1 : nxt l b k * 2 ^ (48 - b) = sumIf (List.range l.length) (fun j => 2 ^ (48 - l.getD j 0)) (fun j => decide (0 < l.getD j 0) && (decide (l.getD j 0 < b) || (decide (l.getD j 0 = b) && decide (j < k)))) :=
    sumIf_mul fun j _ hj => by
      rw [← Nat.pow_add]
      congr 1
      simp at hj ⊢
      omega
  have h2 : sumIf (List.range l.length) (fun j => 2 ^ (48 - l.getD j 0)) (fun j => decide (0 < l.getD j 0) && (decide (l.getD j 0 < b) || (decide (l.getD j 0 = b) && decide (j < k)))) ≤ ksum l :=
    sumIf_le fun j _ hj => by
      simp at hj ⊢
      omega
  have h3 : nxt l b k * 2 ^ (48 - b) ≤ 2 ^ b * 2 ^ (48 - b) := by
    rw [← Nat.pow_add, show b + (48 - b) = 48 from by omega]
    omega
  exact Nat.le_of_mul_le_mul_right h3 (Nat.two_pow_pos _)
theorem nxt_bound {l : List Nat} {b k : Nat} (hb : b ≤ 48) (h : ksum l ≤ 2 ^ 48) : nxt l b k ≤ 281474976710656 :=
  Nat.le_trans (nxt_le hb h) (Nat.le_trans (Nat.pow_le_pow_right (by omega) hb) (by decide))
/-- the codes that are given when those below b bits are, and of those of b bits the ones of the first k signs -/
def given (l : List Nat) (b k : Nat) : List Int := (List.range l.length).map fun i => if 0 < l.getD i 0 ∧ (l.getD i 0 < b ∨ (l.getD i 0 = b ∧ i < k)) then (code l i : Int) else 0
def codes (l : List Nat) : List Int := (List.range l.length).map fun i => (code l i : Int)
theorem code_none {l : List Nat} {i : Nat} (h : l.getD i 0 = 0) : code l i = 0 := by
  rw [code_nxt, h]
  exact nxt_zero _ _
theorem given_start (l : List Nat) : given l 1 0 = List.replicate l.length 0 := by
  refine List.ext_getElem (by simp [given]) fun i h1 h2 => ?_
  simp [given]
  omega
theorem given_next (l : List Nat) (b : Nat) : given l b l.length = given l (b + 1) 0 := by
  refine List.map_congr_left fun i hi => ?_
  have := List.mem_range.1 hi
  have e : (0 < l.getD i 0 ∧ (l.getD i 0 < b ∨ (l.getD i 0 = b ∧ i < l.length))) ↔ (0 < l.getD i 0 ∧ (l.getD i 0 < b + 1 ∨ (l.getD i 0 = b + 1 ∧ i < 0))) := by omega
  by_cases h : 0 < l.getD i 0 ∧ (l.getD i 0 < b ∨ (l.getD i 0 = b ∧ i < l.length))
  · rw [if_pos h, if_pos (e.1 h)]
  · rw [if_neg h, if_neg fun h' => h (e.2 h')]
theorem given_miss {l : List Nat} {b k : Nat} (h : l.getD k 0 ≠ b) : given l b (k + 1) = given l b k := by
  refine List.map_congr_left fun i hi => ?_
  have e : (0 < l.getD i 0 ∧ (l.getD i 0 < b ∨ (l.getD i 0 = b ∧ i < k + 1))) ↔ (0 < l.getD i 0 ∧ (l.getD i 0 < b ∨ (l.getD i 0 = b ∧ i < k))) := by
    by_cases e : i = k
    · subst e; omega
    · omega
  by_cases h : 0 < l.getD i 0 ∧ (l.getD i 0 < b ∨ (l.getD i 0 = b ∧ i < k + 1))
  · rw [if_pos h, if_pos (e.1 h)]
  · rw [if_neg h, if_neg fun h' => h (e.2 h')]
theorem given_hit {l : List Nat} {b k : Nat} (hb : 0 < b) (h : l.getD k 0 = b) : given l b (k + 1) = (given l b k).set k (nxt l b k : Int) := by
  refine List.ext_getElem (by simp [given]) fun i h1 h2 => ?_
  rw [List.getElem_set]
  by_cases e : k = i
  · subst e
    rw [if_pos rfl]
    simp only [given, List.getElem_map, List.getElem_range]
    rw [if_pos (by omega), code_nxt, h]
  · rw [if_neg e]
    simp only [given, List.getElem_map, List.getElem_range]
    have e : (0 < l.getD i 0 ∧ (l.getD i 0 < b ∨ (l.getD i 0 = b ∧ i < k + 1))) ↔ (0 < l.getD i 0 ∧ (l.getD i 0 < b ∨ (l.getD i 0 = b ∧ i < k))) := by omega
    by_cases h : 0 < l.getD i 0 ∧ (l.getD i 0 < b ∨ (l.getD i 0 = b ∧ i < k + 1))
    · rw [if_pos h, if_pos (e.1 h)]
    · rw [if_neg h, if_neg fun h' => h (e.2 h')]
theorem getD_le {l : List Nat} {B : Nat} (h : ∀ n ∈ l, n ≤ B) (i : Nat) : l.getD i 0 ≤ B := by
  rw [List.getD_eq_getElem?_getD]
  cases e : l[i]? with
  | none => exact Nat.zero_le _
  | some x => exact h x (List.mem_of_getElem? e)
theorem given_end {l : List Nat} (h : ∀ n ∈ l, n ≤ 48) : given l 49 0 = codes l := by
  refine List.map_congr_left fun i hi => ?_
  have h48 := getD_le h i
  by_cases h0 : 0 < l.getD i 0
  · rw [if_pos (by omega)]
  · rw [if_neg (by omega), code_none (by omega)]
    rfl
theorem given_length (l : List Nat) (b k : Nat) : (given l b k).length = l.length := by simp [given]
theorem codes_length (l : List Nat) : (codes l).length = l.length := by simp [codes]
/-- the Kraft sum of the first k -/
def kto (l : List Nat) (k : Nat) : Nat := sumIf (List.range k) (fun j => 2 ^ (48 - l.getD j 0)) (fun j => decide (0 < l.getD j 0))
theorem kto_all (l : List Nat) : kto l l.length = ksum l := rfl
theorem kto_succ (l : List Nat) (k : Nat) : kto l (k + 1) = kto l k + if 0 < l.getD k 0 then 2 ^ (48 - l.getD k 0) else 0 := by
  unfold kto
  rw [sumIf_succ]
  simp
theorem kto_le (l : List Nat) (k : Nat) : kto l k ≤ k * 281474976710656 := by
  induction k with
  | zero => simp [kto, sumIf]
  | succ k ih =>
    have h1 : 2 ^ (48 - l.getD k 0) ≤ 281474976710656 := Nat.le_trans (Nat.pow_le_pow_right (by omega) (Nat.sub_le _ _)) (by decide : 2 ^ 48 ≤ 281474976710656)
    have h2 : (if 0 < l.getD k 0 then 2 ^ (48 - l.getD k 0) else 0) ≤ 281474976710656 := by
      by_cases h : 0 < l.getD k 0
      · rw [if_pos h]; exact h1
      · rw [if_neg h]; exact Nat.zero_le _
    rw [kto_succ, Nat.succ_mul]
    exact Nat.add_le_add ih h2
/-- the code of i, of the first k looked at -/
def cto (l : List Nat) (i k : Nat) : Nat := sumIf (List.range k) (fun j => 2 ^ (l.getD i 0 - l.getD j 0)) (ahead l i)
theorem cto_all (l : List Nat) (i : Nat) : cto l i l.length = code l i := rfl
theorem cto_hit {l : List Nat} {i k : Nat} (h : ahead l i k = true) : cto l i (k + 1) = cto l i k + 2 ^ (l.getD i 0 - l.getD k 0) := by
  unfold cto
  rw [sumIf_succ, if_pos h]
theorem cto_miss {l : List Nat} {i k : Nat} (h : ahead l i k = false) : cto l i (k + 1) = cto l i k := by
  unfold cto
  rw [sumIf_succ, h]
  rfl
theorem cto_le {l : List Nat} {i k : Nat} (hk : k ≤ l.length) (h48 : ∀ n ∈ l, n ≤ 48) (h : ksum l ≤ 2 ^ 48) : cto l i k ≤ 281474976710656 := by
  have h1 : cto l i k ≤ code l i := by
    obtain ⟨d, hd⟩ : ∃ d, l.length = k + d := ⟨l.length - k, by omega⟩
    unfold cto code
    rw [hd, List.range_add, sumIf_append]
    omega
  rw [code_nxt] at h1
  exact Nat.le_trans h1 (nxt_bound (getD_le h48 i) h)
/-- codes of the first i, and the part of the i-th's out of the first k -/
def part (l : List Nat) (i k : Nat) : List Int := (List.range l.length).map fun j => if j < i then (code l j : Int) else if j = i then (cto l i k : Int) else 0
theorem part_length (l : List Nat) (i k : Nat) : (part l i k).length = l.length := by simp [part]
theorem part_start (l : List Nat) : part l 0 0 = List.replicate l.length 0 := by
  refine List.ext_getElem (by simp [part]) fun i h1 h2 => ?_
  simp [part, cto, sumIf]
theorem part_next (l : List Nat) (i : Nat) : part l i l.length = part l (i + 1) 0 := by
  refine List.map_congr_left fun j hj => ?_
  by_cases h1 : j < i
  · rw [if_pos h1, if_pos (by omega)]
  · rw [if_neg h1]
    by_cases h2 : j = i
    · subst h2
      rw [if_pos rfl, if_pos (by omega), cto_all]
    · rw [if_neg h2, if_neg (by omega)]
      split
      · simp [cto, sumIf]
      · rfl
theorem part_end (l : List Nat) : part l l.length 0 = codes l := by
  refine List.map_congr_left fun j hj => ?_
  rw [if_pos (List.mem_range.1 hj)]
theorem part_miss {l : List Nat} {i k : Nat} (h : ahead l i k = false) : part l i (k + 1) = part l i k := by
  unfold part
  rw [cto_miss h]
theorem part_get {l : List Nat} {i k : Nat} (hi : i < l.length) : (part l i k)[i]? = some (cto l i k : Int) := by
  simp [part, hi]
theorem part_hit {l : List Nat} {i k : Nat} (h : ahead l i k = true) : part l i (k + 1) = (part l i k).set i ((cto l i k : Int) + (2 ^ (l.getD i 0 - l.getD k 0) : Nat)) := by
  refine List.ext_getElem (by simp [part]) fun j h1 h2 => ?_
  rw [List.getElem_set]
  simp only [part, List.getElem_map, List.getElem_range]
  by_cases e : i = j
  · subst e
    rw [if_neg (by omega), if_pos rfl, if_pos rfl, cto_hit h]
    omega
  · rw [if_neg e]
    by_cases h3 : j < i
    · rw [if_pos h3, if_pos h3]
    · rw [if_neg h3, if_neg h3, if_neg (fun e' => e e'.symm), if_neg (fun e' => e e'.symm)]
/-- is it a list of numbers that signs may have? -/
def sgn (most : Int) (l : List Int) : Bool := decide (1 ≤ l.length ∧ l.length ≤ 256 ∧ ∀ n ∈ l, 0 ≤ n ∧ n ≤ most)
def up (l : List Nat) : List Int := l.map fun n : Nat => (n : Int)
theorem up_length (l : List Nat) : (up l).length = l.length := by simp [up]
theorem up_get (l : List Nat) (j : Nat) (hj : j < (up l).length) : (up l)[j] = ((l.getD j 0 : Nat) : Int) := by
  have : j < l.length := by simpa [up] using hj
  simp [up, List.getD_eq_getElem?_getD, List.getElem?_eq_getElem this]
theorem sgn_up {most : Nat} {l : List Int} (h : sgn most l = true) : ∃ L : List Nat, l = up L ∧ 1 ≤ L.length ∧ L.length ≤ 256 ∧ ∀ n ∈ L, n ≤ most := by
  obtain ⟨h1, h2, h3⟩ := of_decide_eq_true h
  refine ⟨l.map Int.toNat, ?_, by simpa using h1, by simpa using h2, fun n hn => ?_⟩
  · unfold up
    rw [List.map_map]
    conv => lhs; rw [← List.map_id l]
    refine List.map_congr_left fun n hn => ?_
    have := h3 n hn
    show n = ((n.toNat : Nat) : Int)
    omega
  · obtain ⟨m, hm, rfl⟩ := List.mem_map.1 hn
    have := h3 m hm
    omega
end Hf
end Go.Proofs.Ytgdkfaphbbdnbaa

namespace Go.Proofs.Ytgdkfaphbbdnbaa
namespace Hf

/-- a heap of signs, with the value that its list of signs is -/
structure G where
  wt : Nat
  low : Nat
  sg : List Nat
  sv : Value
def G.z : G := ⟨0, 0, [], .slice none 0 0⟩
def ltG (a b : G) : Bool := decide (a.wt < b.wt ∨ (a.wt = b.wt ∧ a.low < b.low))
theorem ltG_iff {a b : G} : ltG a b = true ↔ (a.wt < b.wt ∨ (a.wt = b.wt ∧ a.low < b.low)) := by unfold ltG; exact decide_eq_true_iff
theorem ltG_not {a b : G} : ltG a b = false ↔ (b.wt < a.wt ∨ (b.wt = a.wt ∧ b.low ≤ a.low)) := by
  rw [← Bool.not_eq_true, ltG_iff]
  omega
theorem ge_trans {a b c : G} (h1 : ltG b a = false) (h2 : ltG c b = false) : ltG c a = false := by
  rw [ltG_not] at *
  omega
theorem lt_ge {a b : G} (h : ltG a b = true) : ltG b a = false := by
  rw [ltG_iff] at h
  rw [ltG_not]
  omega
theorem ge_refl (a : G) : ltG a a = false := by rw [ltG_not]; omega
def nth (l : List G) (i : Nat) : G := l.getD i G.z
theorem nth_get {l : List G} {i : Nat} (h : i < l.length) : nth l i = l[i] := by
  unfold nth
  rw [List.getD_eq_getElem?_getD, List.getElem?_eq_getElem h]
  rfl
theorem nth_mem {l : List G} {i : Nat} (h : i < l.length) : nth l i ∈ l := by
  rw [nth_get h]
  exact List.getElem_mem h
theorem nth_set {l : List G} {i j : Nat} {x : G} (hi : i < l.length) : nth (l.set i x) j = if i = j then x else nth l j := by
  unfold nth
  rw [List.getD_eq_getElem?_getD, List.getD_eq_getElem?_getD, List.getElem?_set]
  by_cases h : i = j
  · rw [if_pos h, if_pos h, if_pos (by omega)]
    rfl
  · rw [if_neg h, if_neg h]
def swp (l : List G) (i j : Nat) : List G := (l.set i (nth l j)).set j (nth l i)
theorem swp_length (l : List G) (i j : Nat) : (swp l i j).length = l.length := by simp [swp]
theorem nth_swp {l : List G} {i j k : Nat} (hi : i < l.length) (hj : j < l.length) : nth (swp l i j) k = if j = k then nth l i else if i = k then nth l j else nth l k := by
  unfold swp
  rw [nth_set (by simpa using hj), nth_set hi]
theorem swp_perm {l : List G} {i j : Nat} (hi : i < l.length) (hj : j < l.length) : (swp l i j).Perm l := by
  have := Array.swap_perm (xs := l.toArray) (i := i) (j := j) (by simpa using hi) (by simpa using hj)
  have h := this.toList
  unfold swp
  rw [nth_get hi, nth_get hj]
  simpa [Array.swap] using h
/-- each is not before the one above it -/
def Ord (l : List G) : Prop := ∀ i, 0 < i → i < l.length → ltG (nth l i) (nth l ((i - 1) / 2)) = false
/-- so, but for the one at p, which may be before those above it -/
structure Up (l : List G) (p : Nat) : Prop where
  other : ∀ i, 0 < i → i < l.length → i ≠ p → ltG (nth l i) (nth l ((i - 1) / 2)) = false
  kids : ∀ i, 0 < i → i < l.length → (i - 1) / 2 = p → 0 < p → ltG (nth l i) (nth l ((p - 1) / 2)) = false
theorem Up.done {l : List G} {p : Nat} (h : Up l p) (hp : p = 0 ∨ ltG (nth l p) (nth l ((p - 1) / 2)) = false) : Ord l := by
  intro i h0 hi
  by_cases e : i = p
  · subst e
    rcases hp with hp | hp
    · omega
    · exact hp
  · exact h.other i h0 hi e
theorem Up.step {l : List G} {p : Nat} (h : Up l p) (hp : 0 < p) (hl : p < l.length) (hlt : ltG (nth l p) (nth l ((p - 1) / 2)) = true) : Up (swp l p ((p - 1) / 2)) ((p - 1) / 2) := by
  have hq : (p - 1) / 2 < l.length := by omega
  have hqp : (p - 1) / 2 < p := by omega
  obtain ⟨q, eq⟩ : ∃ q, q = (p - 1) / 2 := ⟨_, rfl⟩
  rw [← eq] at hlt hq hqp ⊢
  constructor
  · intro i h0 hi hne
    rw [swp_length] at hi
    rw [nth_swp hl hq, nth_swp hl hq]
    by_cases e1 : i = p
    · subst e1
      rw [if_neg (by omega), if_pos rfl, ← eq, if_pos rfl]
      exact lt_ge hlt
    · rw [if_neg (fun e => hne e.symm), if_neg (fun e => e1 e.symm)]
      by_cases e2 : q = (i - 1) / 2
      · rw [if_pos e2]
        have h1 := h.other i h0 hi e1
        rw [← e2] at h1
        exact ge_trans (lt_ge hlt) h1
      · rw [if_neg e2]
        by_cases e3 : p = (i - 1) / 2
        · rw [if_pos e3]
          have := h.kids i h0 hi e3.symm hp
          rw [← eq] at this
          exact this
        · rw [if_neg e3]
          exact h.other i h0 hi e1
  · intro i h0 hi hiq hq0
    rw [swp_length] at hi
    rw [nth_swp hl hq, nth_swp hl hq]
    have hqq := h.other q hq0 hq (by omega)
    rw [if_neg (show q ≠ (q - 1) / 2 by omega), if_neg (show p ≠ (q - 1) / 2 by omega)]
    by_cases e1 : i = p
    · subst e1
      rw [if_neg (by omega), if_pos rfl]
      exact hqq
    · rw [if_neg (by omega), if_neg (fun e => e1 e.symm)]
      have h1 := h.other i h0 hi e1
      rw [hiq] at h1
      exact ge_trans hqq h1
theorem Up.start {l : List G} (h : Ord l) (x : G) : Up (l ++ [x]) l.length := by
  have e : ∀ i, i < l.length → nth (l ++ [x]) i = nth l i := fun i hi => by
    unfold nth
    rw [List.getD_eq_getElem?_getD, List.getD_eq_getElem?_getD, List.getElem?_append_left hi]
  constructor
  · intro i h0 hi hne
    have hi : i < l.length := by simp at hi; omega
    rw [e i hi, e _ (by omega)]
    exact h i h0 hi
  · intro i h0 hi hp _
    simp at hi
    omega
/-- so, but for the one at p, which may be behind those below it -/
structure Dn (l : List G) (p : Nat) : Prop where
  other : ∀ i, 0 < i → i < l.length → (i - 1) / 2 ≠ p → ltG (nth l i) (nth l ((i - 1) / 2)) = false
  kids : ∀ i, 0 < i → i < l.length → (i - 1) / 2 = p → 0 < p → ltG (nth l i) (nth l ((p - 1) / 2)) = false
/-- of the one at p and its kids the first -/
def one (l : List G) (p : Nat) : Nat := if 2 * p + 1 < l.length ∧ ltG (nth l (2 * p + 1)) (nth l p) = true then 2 * p + 1 else p
def least (l : List G) (p : Nat) : Nat := if 2 * p + 2 < l.length ∧ ltG (nth l (2 * p + 2)) (nth l (one l p)) = true then 2 * p + 2 else one l p
theorem one_le {l : List G} {p : Nat} : ltG (nth l p) (nth l (one l p)) = false ∧ (2 * p + 1 < l.length → ltG (nth l (2 * p + 1)) (nth l (one l p)) = false) ∧ (one l p = p ∨ (one l p = 2 * p + 1 ∧ 2 * p + 1 < l.length ∧ ltG (nth l (one l p)) (nth l p) = true)) := by
  unfold one
  by_cases h : 2 * p + 1 < l.length ∧ ltG (nth l (2 * p + 1)) (nth l p) = true
  · rw [if_pos h]
    exact ⟨lt_ge h.2, fun _ => ge_refl _, .inr ⟨rfl, h.1, h.2⟩⟩
  · rw [if_neg h]
    exact ⟨ge_refl _, fun h1 => Bool.eq_false_iff.2 fun e => h ⟨h1, e⟩, .inl rfl⟩
theorem least_le {l : List G} {p : Nat} : ltG (nth l p) (nth l (least l p)) = false ∧ (2 * p + 1 < l.length → ltG (nth l (2 * p + 1)) (nth l (least l p)) = false) ∧ (2 * p + 2 < l.length → ltG (nth l (2 * p + 2)) (nth l (least l p)) = false) ∧
    (least l p = p ∨ ((least l p = 2 * p + 1 ∨ least l p = 2 * p + 2) ∧ least l p < l.length)) := by
  obtain ⟨h1, h2, h3⟩ := one_le (l := l) (p := p)
  unfold least
  by_cases h : 2 * p + 2 < l.length ∧ ltG (nth l (2 * p + 2)) (nth l (one l p)) = true
  · rw [if_pos h]
    have := lt_ge h.2
    exact ⟨ge_trans this h1, fun e => ge_trans this (h2 e), fun _ => ge_refl _, .inr ⟨.inr rfl, h.1⟩⟩
  · rw [if_neg h]
    refine ⟨h1, h2, fun e => Bool.eq_false_iff.2 fun e' => h ⟨e, e'⟩, ?_⟩
    rcases h3 with h3 | ⟨h3, h4, _⟩
    · exact .inl h3
    · exact .inr ⟨.inl h3, by omega⟩
theorem Dn.done {l : List G} {p : Nat} (h : Dn l p) (hp : least l p = p) : Ord l := by
  obtain ⟨_, h1, h2, _⟩ := least_le (l := l) (p := p)
  rw [hp] at h1 h2
  intro i h0 hi
  by_cases e : (i - 1) / 2 = p
  · rw [e]
    rcases (show i = 2 * p + 1 ∨ i = 2 * p + 2 by omega) with rfl | rfl
    · exact h1 hi
    · exact h2 hi
  · exact h.other i h0 hi e
theorem Dn.step {l : List G} {p m : Nat} (h : Dn l p) (hp : p < l.length) (hm : least l p = m) (hne : m ≠ p) : Dn (swp l p m) m ∧ p < m ∧ m < l.length := by
  obtain ⟨h0, h1, h2, h3⟩ := least_le (l := l) (p := p)
  rw [hm] at h0 h1 h2 h3
  obtain ⟨hc, hml⟩ : (m = 2 * p + 1 ∨ m = 2 * p + 2) ∧ m < l.length := by
    rcases h3 with h3 | h3
    · exact absurd h3 hne
    · exact h3
  have hpm : (m - 1) / 2 = p := by omega
  refine ⟨⟨fun i i0 hi hq => ?_, fun i i0 hi hq m0 => ?_⟩, by omega, hml⟩
  · rw [swp_length] at hi
    rw [nth_swp hp hml, nth_swp hp hml]
    rw [if_neg (show m ≠ (i - 1) / 2 from fun e => hq e.symm)]
    by_cases e1 : i = m
    · subst e1
      rw [if_pos rfl, hpm, if_pos rfl]
      exact h0
    · rw [if_neg (fun e => e1 e.symm)]
      by_cases e2 : p = i
      · subst e2
        rw [if_pos rfl, if_neg (show p ≠ (p - 1) / 2 by omega)]
        exact h.kids m (by omega) hml hpm i0
      · rw [if_neg e2]
        by_cases e3 : p = (i - 1) / 2
        · rw [if_pos e3]
          rcases (show i = 2 * p + 1 ∨ i = 2 * p + 2 by omega) with rfl | rfl
          · exact h1 hi
          · exact h2 hi
        · rw [if_neg e3]
          exact h.other i i0 hi (fun e => e3 e.symm)
  · rw [swp_length] at hi
    rw [nth_swp hp hml, nth_swp hp hml, hpm, if_neg hne, if_pos rfl, if_neg (show m ≠ i by omega), if_neg (show p ≠ i by omega)]
    have := h.other i i0 hi (by omega)
    rw [hq] at this
    exact this
theorem nth_dropLast {l : List G} {i : Nat} (h : i < l.length - 1) : nth l.dropLast i = nth l i := by
  rw [nth_get (by simpa using h), nth_get (by omega)]
  simp
/-- the first and the last changed, the last one off -/
theorem Dn.start {l : List G} (h : Ord l) : Dn (swp l 0 (l.length - 1)).dropLast 0 := by
  constructor
  · intro i i0 hi hq
    have hl : i < l.length - 1 := by simpa [swp_length] using hi
    rw [nth_dropLast (by rw [swp_length]; exact hl), nth_dropLast (by rw [swp_length]; omega), nth_swp (by omega) (by omega), nth_swp (by omega) (by omega)]
    rw [if_neg (by omega), if_neg (by omega), if_neg (by omega), if_neg (by omega)]
    exact h i i0 (by omega)
  · intro i _ _ _ h0
    omega
theorem start_perm {l : List G} (h : 0 < l.length) : l.Perm (nth l 0 :: (swp l 0 (l.length - 1)).dropLast) := by
  have hp := swp_perm (l := l) (i := 0) (j := l.length - 1) h (by omega)
  have hne : swp l 0 (l.length - 1) ≠ [] := by
    intro e
    have := swp_length l 0 (l.length - 1)
    rw [e] at this
    simp at this
    omega
  have hl : (swp l 0 (l.length - 1)).getLast hne = nth l 0 := by
    rw [List.getLast_eq_getElem, ← nth_get (by rw [swp_length]; omega), nth_swp h (by omega), swp_length, if_pos rfl]
  have := List.dropLast_concat_getLast hne
  rw [hl] at this
  refine hp.symm.trans ?_
  conv => lhs; rw [← this]
  exact List.perm_append_comm
/-- the first one is before all -/
theorem Ord.first {l : List G} (h : Ord l) : ∀ i, i < l.length → ltG (nth l i) (nth l 0) = false := by
  intro i
  induction i using Nat.strongRecOn with
  | _ i ih =>
    intro hi
    by_cases h0 : i = 0
    · subst h0
      exact ge_refl _
    · exact ge_trans (ih ((i - 1) / 2) (by omega) (by omega)) (h i (by omega) hi)
theorem Ord.first_mem {l : List G} (h : Ord l) : ∀ c ∈ l, ltG c (nth l 0) = false := by
  intro c hc
  obtain ⟨i, hi, rfl⟩ := List.getElem_of_mem hc
  rw [← nth_get hi]
  exact h.first i hi
theorem Ord.nil : Ord [] := fun i _ hi => by simp at hi
end Hf
end Go.Proofs.Ytgdkfaphbbdnbaa

namespace Go.Proofs.Ytgdkfaphbbdnbaa
namespace Hf
/-- a heap of signs, without the value that its list of signs is -/
abbrev Ab := Nat × Nat × List Nat
def ab (g : G) : Ab := (g.wt, g.low, g.sg)
/-- a heap of each sign that is there, of the first k -/
def init (F : List Nat) (k : Nat) : List Ab := (List.range k).filterMap fun i => if 0 < F.getD i 0 then some (F.getD i 0, i, [i]) else none
theorem init_succ (F : List Nat) (k : Nat) : init F (k + 1) = init F k ++ if 0 < F.getD k 0 then [(F.getD k 0, k, [k])] else [] := by
  unfold init
  rw [List.range_succ, List.filterMap_append]
  congr 1
  by_cases h : 0 < F.getD k 0
  · simp only [List.filterMap_cons, List.filterMap_nil]
    rw [if_pos h, if_pos h]
  · simp only [List.filterMap_cons, List.filterMap_nil]
    rw [if_neg h, if_neg h]
theorem init_length (F : List Nat) (k : Nat) : (init F k).length ≤ k := by
  have := List.length_filterMap_le (fun i => if 0 < F.getD i 0 then some (F.getD i 0, i, [i]) else none) (List.range k)
  rw [List.length_range] at this
  exact this


def toHp (x : Ab) : Hp := ⟨x.1, x.2.1, fun i => decide (i ∈ x.2.2)⟩
def H0 (F : List Nat) : List Hp := (init F F.length).map toHp
/-- not ahead of -/
def nlt (c a : Ab) : Prop := a.1 < c.1 ∨ (a.1 = c.1 ∧ a.2.1 ≤ c.2.1)
/-- heaps of signs below n that no two have together, each with its least sign in it -/
structure St (n : Nat) (A : List Ab) : Prop where
  nodup : (A.flatMap (·.2.2)).Nodup
  low : ∀ x ∈ A, x.2.1 ∈ x.2.2
  lt : ∀ x ∈ A, ∀ i ∈ x.2.2, i < n
  wt : (A.map (·.1)).sum ≤ 268435456
  count : (A.flatMap (·.2.2)).length ≤ 256
theorem St.perm {n : Nat} {A B : List Ab} (h : St n A) (hp : A.Perm B) : St n B := by
  have hf := hp.flatMap_right (·.2.2)
  exact ⟨hf.nodup_iff.1 h.nodup, fun x hx => h.low x (hp.mem_iff.2 hx), fun x hx => h.lt x (hp.mem_iff.2 hx), by rw [← (hp.map _).sum_nat]; exact h.wt, by rw [← hf.length_eq]; exact h.count⟩
theorem St.join {n : Nat} {a b : Ab} {R : List Ab} (h : St n (a :: b :: R)) {s : List Nat} (hs : s.Perm (a.2.2 ++ b.2.2)) : St n ((a.1 + b.1, min a.2.1 b.2.1, s) :: R) := by
  have hf : ((a.1 + b.1, min a.2.1 b.2.1, s) :: R : List Ab).flatMap (·.2.2) |>.Perm ((a :: b :: R).flatMap (·.2.2)) := by
    simp only [List.flatMap_cons]
    rw [← List.append_assoc]
    exact hs.append_right _
  refine ⟨hf.nodup_iff.2 h.nodup, fun x hx => ?_, fun x hx i hi => ?_, ?_, by rw [hf.length_eq]; exact h.count⟩
  · rcases List.mem_cons.1 hx with rfl | hx
    · have h1 := h.low a List.mem_cons_self
      have h2 := h.low b (List.mem_cons_of_mem _ List.mem_cons_self)
      show min a.2.1 b.2.1 ∈ s
      rw [hs.mem_iff, List.mem_append]
      rcases Nat.le_total a.2.1 b.2.1 with e | e
      · rw [Nat.min_eq_left e]; exact .inl h1
      · rw [Nat.min_eq_right e]; exact .inr h2
    · exact h.low x (List.mem_cons_of_mem _ (List.mem_cons_of_mem _ hx))
  · rcases List.mem_cons.1 hx with rfl | hx
    · rcases List.mem_append.1 (hs.mem_iff.1 hi) with hi | hi
      · exact h.lt a List.mem_cons_self i hi
      · exact h.lt b (List.mem_cons_of_mem _ List.mem_cons_self) i hi
    · exact h.lt x (List.mem_cons_of_mem _ (List.mem_cons_of_mem _ hx)) i hi
  · have := h.wt
    simp only [List.map_cons, List.sum_cons] at this ⊢
    omega
/-- who comes first comes truly first -/
theorem St.less {n : Nat} {a : Ab} {R : List Ab} (h : St n (a :: R)) (ha : ∀ c ∈ R, nlt c a) : ∀ c ∈ R.map toHp, less (toHp a) c := by
  intro c hc
  obtain ⟨x, hx, rfl⟩ := List.mem_map.1 hc
  have h1 := h.low a List.mem_cons_self
  have h2 := h.low x (List.mem_cons_of_mem _ hx)
  have h3 : a.2.1 ≠ x.2.1 := by
    intro e
    have := h.nodup
    rw [List.flatMap_cons, List.nodup_append] at this
    exact this.2.2 _ h1 _ (List.mem_flatMap.2 ⟨x, hx, h2⟩) e
  have h4 := ha x hx
  unfold nlt at h4
  unfold Hf.less toHp
  dsimp only
  omega
theorem St.tail {n : Nat} {a : Ab} {R : List Ab} (h : St n (a :: R)) : St n R := by
  refine ⟨?_, fun x hx => h.low x (List.mem_cons_of_mem _ hx), fun x hx => h.lt x (List.mem_cons_of_mem _ hx), ?_, ?_⟩
  · have := h.nodup
    rw [List.flatMap_cons, List.nodup_append] at this
    exact this.2.1
  · have := h.wt
    simp only [List.map_cons, List.sum_cons] at this
    omega
  · have := h.count
    rw [List.flatMap_cons, List.length_append] at this
    omega
/-- one more at each of some places -/
def bump (out : List Nat) (s : List Nat) : List Nat := s.foldl (fun o i => o.set i (o.getD i 0 + 1)) out
theorem bump_length (out s : List Nat) : (bump out s).length = out.length := by
  induction s generalizing out with
  | nil => rfl
  | cons i s ih => show (bump (out.set i (out.getD i 0 + 1)) s).length = _; rw [ih, List.length_set]
theorem bump_more (out s : List Nat) (i : Nat) : bump out (s ++ [i]) = (bump out s).set i ((bump out s).getD i 0 + 1) := by simp [bump]
theorem getD_set (l : List Nat) (i j x : Nat) (hi : i < l.length) : (l.set i x).getD j 0 = if i = j then x else l.getD j 0 := by
  rw [List.getD_eq_getElem?_getD, List.getD_eq_getElem?_getD, List.getElem?_set]
  by_cases h : i = j
  · rw [if_pos h, if_pos h, if_pos (by omega)]; rfl
  · rw [if_neg h, if_neg h]
theorem bump_get {out s : List Nat} (hn : s.Nodup) (hs : ∀ i ∈ s, i < out.length) (j : Nat) : (bump out s).getD j 0 = out.getD j 0 + if j ∈ s then 1 else 0 := by
  induction s generalizing out with
  | nil => simp [bump]
  | cons i s ih =>
    have hi := hs i List.mem_cons_self
    have hn' := List.nodup_cons.1 hn
    show (bump (out.set i (out.getD i 0 + 1)) s).getD j 0 = _
    rw [ih hn'.2 (fun k hk => by rw [List.length_set]; exact hs k (List.mem_cons_of_mem _ hk)), getD_set _ _ _ _ hi]
    by_cases e : i = j
    · subst e
      rw [if_pos rfl, if_neg hn'.1, if_pos List.mem_cons_self]
    · rw [if_neg e]
      by_cases e2 : j ∈ s
      · rw [if_pos e2, if_pos (List.mem_cons_of_mem _ e2)]
      · rw [if_neg e2, if_neg fun h => by rcases List.mem_cons.1 h with h | h; · exact e h.symm
                                          · exact e2 h]
/-- what stays true while heaps are made one -/
structure Inv (F : List Nat) (A : List Ab) (out : List Nat) : Prop where
  len : out.length = F.length
  st : St F.length A
  run : ∀ L, Run (A.map toHp) L → Run (H0 F) (fun i => out.getD i 0 + L i)
  few : ∀ i, out.getD i 0 + A.length ≤ 256
theorem Inv.perm {F : List Nat} {A B : List Ab} {out : List Nat} (h : Inv F A out) (hp : A.Perm B) : Inv F B out :=
  ⟨h.len, h.st.perm hp, fun L hL => h.run L (hL.perm (hp.map _)), fun i => by rw [← hp.length_eq]; exact h.few i⟩
theorem Inv.step {F : List Nat} {a b : Ab} {R : List Ab} {out s : List Nat} (h : Inv F (a :: b :: R) out) (ha : ∀ c ∈ b :: R, nlt c a) (hb : ∀ c ∈ R, nlt c b) (hs : s.Perm (a.2.2 ++ b.2.2)) :
    Inv F ((a.1 + b.1, min a.2.1 b.2.1, s) :: R) (bump out s) := by
  have hst := h.st.join hs
  have hn : s.Nodup := by
    have := hst.nodup
    rw [List.flatMap_cons, List.nodup_append] at this
    exact this.1
  have hlt : ∀ i ∈ s, i < out.length := fun i hi => by rw [h.len]; exact hst.lt _ List.mem_cons_self i hi
  refine ⟨by rw [bump_length]; exact h.len, hst, fun L hL => ?_, fun i => ?_⟩
  · have hj : ((a.1 + b.1, min a.2.1 b.2.1, s) :: R).map toHp = Hf.join (toHp a) (toHp b) :: R.map toHp := by
      rw [List.map_cons]
      congr 1
      unfold Hf.join toHp
      congr 1
      funext i
      rw [Bool.eq_iff_iff]
      simp only [decide_eq_true_eq, Bool.or_eq_true]
      rw [hs.mem_iff, List.mem_append]
    rw [hj] at hL
    have := h.run _ (Run.step (List.Perm.refl _) (h.st.less ha) (h.st.tail.less hb) hL)
    have e : (fun i => (bump out s).getD i 0 + L i) = fun i => out.getD i 0 + ((if (toHp a).mem i || (toHp b).mem i then 1 else 0) + L i) := by
      funext i
      rw [bump_get hn hlt, Nat.add_assoc]
      congr 2
      have e1 : ((toHp a).mem i || (toHp b).mem i) = decide (i ∈ s) := by
        unfold toHp
        rw [Bool.eq_iff_iff]
        simp only [decide_eq_true_eq, Bool.or_eq_true]
        rw [hs.mem_iff, List.mem_append]
      rw [e1]
      by_cases h : i ∈ s
      · simp [h]
      · simp [h]
    rw [e]
    exact this
  · have := h.few i
    rw [bump_get hn hlt]
    simp only [List.length_cons] at this ⊢
    split <;> omega
theorem Inv.done {F : List Nat} {x : Ab} {out : List Nat} (h : Inv F [x] out) : Run (H0 F) (fun i => out.getD i 0) := by
  have := h.run _ (Run.one (toHp x))
  simpa using this
theorem init_mem {F : List Nat} {k : Nat} {x : Ab} (h : x ∈ init F k) : ∃ i, i < k ∧ 0 < F.getD i 0 ∧ x = (F.getD i 0, i, [i]) := by
  obtain ⟨i, hi, e⟩ := List.mem_filterMap.1 h
  by_cases h0 : 0 < F.getD i 0
  · rw [if_pos h0] at e
    exact ⟨i, List.mem_range.1 hi, h0, by simpa using e.symm⟩
  · rw [if_neg h0] at e
    simp at e
theorem init_signs (F : List Nat) (k : Nat) : (init F k).flatMap (·.2.2) = (List.range k).filter fun i => decide (0 < F.getD i 0) := by
  induction k with
  | zero => rfl
  | succ k ih =>
    rw [init_succ, List.flatMap_append, ih, List.range_succ, List.filter_append]
    congr 1
    by_cases h : 0 < F.getD k 0
    · rw [if_pos h, List.filter_cons, if_pos (by simpa using h)]; rfl
    · rw [if_neg h, List.filter_cons, if_neg (by simpa using h)]; rfl
theorem init_wt {F : List Nat} {k : Nat} (h : ∀ n ∈ F, n ≤ 1048576) : ((init F k).map (·.1)).sum ≤ k * 1048576 := by
  induction k with
  | zero => simp [init]
  | succ k ih =>
    rw [init_succ, List.map_append, List.sum_append]
    have h1 : F.getD k 0 ≤ 1048576 := by
      rw [List.getD_eq_getElem?_getD]
      cases e : F[k]? with
      | none => simp
      | some x => exact h x (List.mem_of_getElem? e)
    rw [Nat.succ_mul]
    refine Nat.add_le_add ih ?_
    by_cases h : 0 < F.getD k 0
    · rw [if_pos h]
      simpa using h1
    · rw [if_neg h]
      simp
theorem Inv.start {F : List Nat} (h2 : F.length ≤ 256) (h3 : ∀ n ∈ F, n ≤ 1048576) : Inv F (init F F.length) (List.replicate F.length 0) := by
  have hz : ∀ i, (List.replicate F.length 0).getD i 0 = 0 := fun i => by
    rw [List.getD_eq_getElem?_getD]
    cases e : (List.replicate F.length 0)[i]? with
    | none => rfl
    | some x => exact List.eq_of_mem_replicate (List.mem_of_getElem? e)
  refine ⟨by simp, ⟨?_, fun x hx => ?_, fun x hx i hi => ?_, ?_, ?_⟩, fun L hL => ?_, fun i => ?_⟩
  · rw [init_signs]
    exact List.nodup_range.filter _
  · obtain ⟨i, _, _, rfl⟩ := init_mem hx
    exact List.mem_singleton.2 rfl
  · obtain ⟨j, hj, _, rfl⟩ := init_mem hx
    rw [List.mem_singleton.1 hi]
    exact hj
  · have := init_wt (k := F.length) h3
    omega
  · rw [init_signs]
    have := List.length_filter_le (fun i => decide (0 < F.getD i 0)) (List.range F.length)
    rw [List.length_range] at this
    omega
  · have e : (fun i => (List.replicate F.length 0).getD i 0 + L i) = L := by funext i; rw [hz]; omega
    rw [e]
    exact hL
  · rw [hz]
    have := init_length F F.length
    omega
/-- P19's answer -/
structure HL (F out : List Nat) : Prop where
  len : out.length = F.length
  none : (init F F.length).length = 0 → out = List.replicate F.length 0
  one : ∀ x, init F F.length = [x] → out = (List.replicate F.length 0).set x.2.1 1
  more : 2 ≤ (init F F.length).length → Run (H0 F) (fun i => out.getD i 0)
theorem HL.once {F a b : List Nat} (h : HL F a) (k : HL F b) : a = b := by
  rcases (show (init F F.length).length = 0 ∨ (init F F.length).length = 1 ∨ 2 ≤ (init F F.length).length by omega) with e | e | e
  · rw [h.none e, k.none e]
  · obtain ⟨x, hx⟩ := List.length_eq_one_iff.1 e
    rw [h.one x hx, k.one x hx]
  · have := (h.more e).once (List.Perm.refl _) (k.more e)
    refine List.ext_getElem (by rw [h.len, k.len]) fun i h1 h2 => ?_
    have e : a.getD i 0 = b.getD i 0 := congrFun this i
    rw [List.getD_eq_getElem?_getD, List.getD_eq_getElem?_getD, List.getElem?_eq_getElem h1, List.getElem?_eq_getElem h2] at e
    exact e
end Hf
end Go.Proofs.Ytgdkfaphbbdnbaa

namespace Go.Proofs.Ytgdkfaphbbdnbaa
namespace Hf

theorem Run.absent {H : List Hp} {L : Nat → Nat} (h : Run H L) {i : Nat} (hi : ∀ x ∈ H, x.mem i = false) : L i = 0 := by
  induction h using Run.ind with
  | one y => rfl
  | @step H R a b L hp ha hb h ih =>
    have h1 := hi a (hp.mem_iff.2 List.mem_cons_self)
    have h2 := hi b (hp.mem_iff.2 (List.mem_cons_of_mem _ List.mem_cons_self))
    have h3 := ih fun x hx => by
      rcases List.mem_cons.1 hx with rfl | hx
      · show (a.mem i || b.mem i) = false
        rw [h1, h2]; rfl
      · exact hi x (hp.mem_iff.2 (List.mem_cons_of_mem _ (List.mem_cons_of_mem _ hx)))
    show (if a.mem i || b.mem i then 1 else 0) + L i = 0
    rw [h1, h2, h3]
    rfl
/-- signs that are there, with their lengths -/
def pairs (F l : List Nat) (k : Nat) : Ps := (init F k).map fun x => (x.1, l.getD x.2.1 0)
theorem pairs_succ (F l : List Nat) (k : Nat) : pairs F l (k + 1) = pairs F l k ++ if 0 < F.getD k 0 then [(F.getD k 0, l.getD k 0)] else [] := by
  unfold pairs
  rw [init_succ, List.map_append]
  by_cases h : 0 < F.getD k 0
  · rw [if_pos h, if_pos h]; rfl
  · rw [if_neg h, if_neg h]; rfl
theorem pairs_kr (F l : List Nat) (k : Nat) : kr 48 (pairs F l k) = sumIf (List.range k) (fun j => 2 ^ (48 - l.getD j 0)) (fun j => decide (0 < F.getD j 0)) := by
  induction k with
  | zero => rfl
  | succ k ih =>
    rw [pairs_succ, sumIf_succ, ← ih]
    unfold kr
    rw [List.map_append, List.sum_append]
    congr 1
    by_cases h : 0 < F.getD k 0
    · rw [if_pos h, if_pos (by simpa using h)]; simp
    · rw [if_neg h, if_neg (by simpa using h)]; rfl
/-- the total of the first k -/
def tot (F l : List Nat) (k : Nat) : Nat := ((List.range k).map fun i => F.getD i 0 * l.getD i 0).sum
theorem tot_succ (F l : List Nat) (k : Nat) : tot F l (k + 1) = tot F l k + F.getD k 0 * l.getD k 0 := by
  unfold tot
  rw [List.range_succ, List.map_append, List.sum_append]
  simp
theorem pairs_cost (F l : List Nat) (k : Nat) : cost (pairs F l k) = tot F l k := by
  induction k with
  | zero => rfl
  | succ k ih =>
    rw [pairs_succ, tot_succ, ← ih]
    unfold cost
    rw [List.map_append, List.sum_append]
    congr 1
    by_cases h : 0 < F.getD k 0
    · rw [if_pos h]; simp
    · rw [if_neg h, show F.getD k 0 = 0 by omega, Nat.zero_mul]; rfl
theorem pairs_fst (F l m : List Nat) (k : Nat) : (pairs F l k).map (·.1) = (pairs F m k).map (·.1) := by
  unfold pairs
  rw [List.map_map, List.map_map]
  rfl
theorem init_of {F : List Nat} {k i : Nat} (hi : i < k) (h : 0 < F.getD i 0) : (F.getD i 0, i, [i]) ∈ init F k :=
  List.mem_filterMap.2 ⟨i, List.mem_range.2 hi, if_pos h⟩
theorem two_out {α : Type} {l : List α} {a b : α} (ha : a ∈ l) (hb : b ∈ l) (hne : b ≠ a) : ∃ R, l.Perm (a :: b :: R) := by
  obtain ⟨s, t, rfl⟩ := List.append_of_mem ha
  have hb' : b ∈ s ++ t := by
    rcases List.mem_append.1 hb with h | h
    · exact List.mem_append_left _ h
    · rcases List.mem_cons.1 h with h | h
      · exact absurd h hne
      · exact List.mem_append_right _ h
  obtain ⟨s', t', e⟩ := List.append_of_mem hb'
  refine ⟨s' ++ t', ?_⟩
  refine List.perm_middle.trans (List.Perm.cons _ ?_)
  rw [e]
  exact List.perm_middle
/-- all that there is to say of more than one sign -/
structure Two (F out : List Nat) : Prop where
  hp : HP (pairs F out F.length)
  absent : ∀ i, F.getD i 0 = 0 → out.getD i 0 = 0
theorem HL.two {F out : List Nat} (h : HL F out) (h2 : F.length ≤ 256) (h3 : ∀ n ∈ F, n ≤ 1048576) (h4 : 2 ≤ (init F F.length).length) : Two F out := by
  have hr := h.more h4
  have hst := (Inv.start h2 h3).st
  have hA : Apart (H0 F) := by
    refine ⟨fun x hx => ?_, ?_⟩
    · obtain ⟨y, hy, rfl⟩ := List.mem_map.1 hx
      exact decide_eq_true (hst.low y hy)
    · unfold H0
      rw [List.pairwise_map]
      have hn := hst.nodup
      unfold List.Nodup at hn
      rw [List.pairwise_flatMap] at hn
      refine hn.2.imp fun hab i ⟨h1, h2⟩ => ?_
      exact hab i (of_decide_eq_true h1) i (of_decide_eq_true h2) rfl
  refine ⟨?_, fun i hi => hr.absent fun x hx => ?_⟩
  · have := hr.hp hA
    unfold H0 at this
    rw [List.map_map] at this
    exact this
  · obtain ⟨y, hy, rfl⟩ := List.mem_map.1 hx
    obtain ⟨j, hj, hj0, rfl⟩ := init_mem hy
    refine decide_eq_false fun hm => ?_
    have : i = j := List.mem_singleton.1 hm
    subst this
    omega
theorem Two.le40 {F out : List Nat} (h : Two F out) (h2 : F.length ≤ 256) (h3 : ∀ n ∈ F, n ≤ 1048576) : ∀ x ∈ pairs F out F.length, x.2 ≤ 40 := by
  refine h.hp.bound (fun x hx => ?_) ?_
  · obtain ⟨y, hy, rfl⟩ := List.mem_map.1 hx
    obtain ⟨j, _, hj0, rfl⟩ := init_mem hy
    exact hj0
  · have := (Inv.start h2 h3).st.wt
    unfold pairs
    rw [List.map_map]
    exact this
theorem mem_pairs {F l : List Nat} {k i : Nat} (hi : i < k) (h : 0 < F.getD i 0) : (F.getD i 0, l.getD i 0) ∈ pairs F l k := List.mem_map.2 ⟨_, init_of hi h, rfl⟩
theorem getD_out {l : List Nat} {i : Nat} (h : l.length ≤ i) : l.getD i 0 = 0 := by
  rw [List.getD_eq_getElem?_getD, List.getElem?_eq_none h]
  rfl
theorem getD_rep (n i : Nat) : (List.replicate n 0).getD i 0 = 0 := by
  rw [List.getD_eq_getElem?_getD]
  cases e : (List.replicate n 0)[i]? with
  | none => rfl
  | some x => exact List.eq_of_mem_replicate (List.mem_of_getElem? e)
theorem HL.le48 {F out : List Nat} (h : HL F out) (h2 : F.length ≤ 256) (h3 : ∀ n ∈ F, n ≤ 1048576) : ∀ n ∈ out, n ≤ 48 := by
  have key : ∀ i, out.getD i 0 ≤ 48 := by
    intro i
    rcases (show (init F F.length).length = 0 ∨ (init F F.length).length = 1 ∨ 2 ≤ (init F F.length).length by omega) with e | e | e
    · rw [h.none e, getD_rep]; omega
    · obtain ⟨x, hx⟩ := List.length_eq_one_iff.1 e
      obtain ⟨j, hj, _, rfl⟩ := init_mem (show x ∈ init F F.length by rw [hx]; exact List.mem_cons_self)
      rw [h.one _ hx, getD_set _ _ _ _ (by simpa using hj), getD_rep]
      split <;> omega
    · have ht := h.two h2 h3 e
      by_cases h0 : 0 < F.getD i 0
      · have hi : i < F.length := by
          apply Classical.byContradiction
          intro hn
          rw [getD_out (by omega)] at h0
          omega
        have := ht.le40 h2 h3 _ (mem_pairs (l := out) hi h0)
        dsimp only at this
        omega
      · rw [ht.absent i (by omega)]; omega
  intro n hn
  obtain ⟨i, hi, rfl⟩ := List.getElem_of_mem hn
  have := key i
  rw [List.getD_eq_getElem?_getD, List.getElem?_eq_getElem hi] at this
  exact this
/-- who is there has a length, who isn't has none -/
theorem HL.there {F out : List Nat} (h : HL F out) (h2 : F.length ≤ 256) (h3 : ∀ n ∈ F, n ≤ 1048576) (i : Nat) : 0 < F.getD i 0 ↔ 0 < out.getD i 0 := by
  by_cases hi : i < F.length
  · rcases (show (init F F.length).length = 0 ∨ (init F F.length).length = 1 ∨ 2 ≤ (init F F.length).length by omega) with e | e | e
    · rw [h.none e, getD_rep]
      refine ⟨fun h0 => ?_, fun h0 => by omega⟩
      have := List.length_pos_of_mem (init_of hi h0)
      omega
    · obtain ⟨x, hx⟩ := List.length_eq_one_iff.1 e
      obtain ⟨j, hj, hj0, rfl⟩ := init_mem (show x ∈ init F F.length by rw [hx]; exact List.mem_cons_self)
      rw [h.one _ hx, getD_set _ _ _ _ (by simpa using hj), getD_rep]
      by_cases e2 : j = i
      · subst e2
        rw [if_pos rfl]
        exact ⟨fun _ => by omega, fun _ => hj0⟩
      · rw [if_neg e2]
        refine ⟨fun h0 => ?_, fun h0 => by omega⟩
        have := init_of hi h0
        rw [hx] at this
        have := List.mem_singleton.1 this
        simp at this
        omega
    · have ht := h.two h2 h3 e
      refine ⟨fun h0 => ?_, fun h0 => ?_⟩
      · apply Classical.byContradiction
        intro hn
        have hz : out.getD i 0 = 0 := by omega
        have hk := ht.hp.kraft 48 (fun x hx => by have := ht.le40 h2 h3 x hx; omega)
        have hl : 2 ≤ (pairs F out F.length).length := by unfold pairs; rw [List.length_map]; exact e
        obtain ⟨s, t, ep⟩ := List.append_of_mem (mem_pairs (l := out) hi h0)
        rw [ep] at hk hl
        rw [kr_perm List.perm_middle, kr_cons, hz] at hk
        have hl2 : 0 < (s ++ t).length := by simp at hl ⊢; omega
        cases es : s ++ t with
        | nil => rw [es] at hl2; simp at hl2
        | cons y r =>
          rw [es, kr_cons] at hk
          have := Nat.two_pow_pos (48 - y.2)
          dsimp only at hk
          rw [Nat.sub_zero] at hk
          omega
      · apply Classical.byContradiction
        intro hn
        have := ht.absent i (by omega)
        omega
  · rw [getD_out (by omega), getD_out (by rw [h.len]; omega)]
/-- the whole is filled -/
theorem HL.ksum {F out : List Nat} (h : HL F out) (h2 : F.length ≤ 256) (h3 : ∀ n ∈ F, n ≤ 1048576) :
    ksum out = if (init F F.length).length = 0 then 0 else if (init F F.length).length = 1 then 140737488355328 else 281474976710656 := by
  have e0 : Hf.ksum out = kr 48 (pairs F out F.length) := by
    rw [pairs_kr]
    unfold Hf.ksum
    rw [h.len]
    exact sumIf_congr fun j _ => decide_eq_decide.2 (h.there h2 h3 j).symm
  rw [e0]
  rcases (show (init F F.length).length = 0 ∨ (init F F.length).length = 1 ∨ 2 ≤ (init F F.length).length by omega) with e | e | e
  · rw [if_pos e]
    unfold pairs
    rw [List.length_eq_zero_iff.1 e]
    rfl
  · rw [if_neg (by omega), if_pos e]
    obtain ⟨x, hx⟩ := List.length_eq_one_iff.1 e
    obtain ⟨j, hj, hj0, rfl⟩ := init_mem (show x ∈ init F F.length by rw [hx]; exact List.mem_cons_self)
    unfold pairs
    rw [hx]
    have : out.getD j 0 = 1 := by rw [h.one _ hx, getD_set _ _ _ _ (by simpa using hj), if_pos rfl]
    simp only [List.map_cons, List.map_nil, kr_cons, this]
    rfl
  · rw [if_neg (by omega), if_neg (by omega)]
    have ht := h.two h2 h3 e
    rw [ht.hp.kraft 48 (fun x hx => by have := ht.le40 h2 h3 x hx; omega)]
theorem HL.order {F out : List Nat} (h : HL F out) (h2 : F.length ≤ 256) (h3 : ∀ n ∈ F, n ≤ 1048576) {i j : Nat} (hi : i < F.length) (hj : j < F.length) (h0 : 0 < F.getD j 0) (hlt : F.getD j 0 < F.getD i 0) : out.getD i 0 ≤ out.getD j 0 := by
  have hne : (F.getD i 0, i, [i]) ≠ (F.getD j 0, j, [j]) := fun e => by simp at e; simp at hlt; omega
  have hi' := init_of hi (by omega : 0 < F.getD i 0)
  have hj' := init_of hj h0
  have e : 2 ≤ (init F F.length).length := by
    obtain ⟨R, hR⟩ := two_out hj' hi' hne
    rw [hR.length_eq]
    simp
  have ht := h.two h2 h3 e
  obtain ⟨R, hR⟩ := two_out hj' hi' hne
  have := hR.map fun x : Ab => (x.1, out.getD x.2.1 0)
  exact ht.hp.order 48 (fun x hx => by have := ht.le40 h2 h3 x hx; omega) this hlt
theorem HL.least {F out M : List Nat} (h : HL F out) (h2 : F.length ≤ 256) (h3 : ∀ n ∈ F, n ≤ 1048576) (hM : M.length = F.length) (hM48 : ∀ n ∈ M, n ≤ 48) (hk : Hf.ksum M ≤ 281474976710656) (hm : ∀ i, 0 < F.getD i 0 → 0 < M.getD i 0) : tot F out F.length ≤ tot F M F.length := by
  rw [← pairs_cost, ← pairs_cost]
  rcases (show (init F F.length).length = 0 ∨ (init F F.length).length = 1 ∨ 2 ≤ (init F F.length).length by omega) with e | e | e
  · unfold pairs
    rw [List.length_eq_zero_iff.1 e]
    exact Nat.le_refl _
  · obtain ⟨x, hx⟩ := List.length_eq_one_iff.1 e
    obtain ⟨j, hj, hj0, rfl⟩ := init_mem (show x ∈ init F F.length by rw [hx]; exact List.mem_cons_self)
    have e1 : out.getD j 0 = 1 := by rw [h.one _ hx, getD_set _ _ _ _ (by simpa using hj), if_pos rfl]
    have e2 := hm j hj0
    unfold pairs
    rw [hx]
    simp only [List.map_cons, List.map_nil, cost_cons, e1]
    exact Nat.add_le_add_right (Nat.mul_le_mul_left _ e2) _
  · have ht := h.two h2 h3 e
    refine ht.hp.least (by rw [pairs_fst F M out]) 48 (fun x hx => ?_) ?_
    · obtain ⟨y, _, rfl⟩ := List.mem_map.1 hx
      have : ∀ i, M.getD i 0 ≤ 48 := fun i => getD_le hM48 i
      exact this _
    · rw [pairs_kr]
      refine Nat.le_trans (sumIf_le (q := fun j => decide (0 < M.getD j 0)) fun j _ hj => by simp at hj ⊢; simpa using hm j (by simpa using hj)) ?_
      unfold Hf.ksum at hk
      rw [hM] at hk
      exact Nat.le_trans hk (by decide)
end Hf
end Go.Proofs.Ytgdkfaphbbdnbaa
