/-
  Codes (no Go in it): the lengths that heaps made one have: their total, their Kraft sum, their order, their bound.
-/
import Derived.Test.YtgdkfaphbbdnbaaHuffMath
namespace Go.Proofs.Ytgdkfaphbbdnbaa
namespace Hf

/-- weights with the lengths that come of making one always two of the least weight -/
def HP (P : Ps) : Prop := ∀ M : Ps → Prop, (∀ w, M [(w, 0)]) → (∀ (P R : Ps) (a b n : Nat), P.Perm ((a, n + 1) :: (b, n + 1) :: R) → a ≤ b → (∀ c ∈ R, b ≤ c.1) → M ((a + b, n) :: R) → M P) → M P
theorem HP.one (w : Nat) : HP [(w, 0)] := fun _ h1 _ => h1 w
theorem HP.step {P R : Ps} {a b n : Nat} (hp : P.Perm ((a, n + 1) :: (b, n + 1) :: R)) (hab : a ≤ b) (hR : ∀ c ∈ R, b ≤ c.1) (h : HP ((a + b, n) :: R)) : HP P :=
  fun M h1 h2 => h2 _ _ _ _ _ hp hab hR (h M h1 h2)
theorem HP.ind {M : ∀ P, HP P → Prop} (one : ∀ w, M [(w, 0)] (HP.one w))
    (step : ∀ {P R : Ps} {a b n : Nat} (hp : P.Perm ((a, n + 1) :: (b, n + 1) :: R)) (hab : a ≤ b) (hR : ∀ c ∈ R, b ≤ c.1) (h : HP ((a + b, n) :: R)) (_ : M _ h), M P (HP.step hp hab hR h))
    {P : Ps} (h : HP P) : M P h := by
  obtain ⟨_, e⟩ := h (fun P => ∃ h : HP P, M P h) (fun w => ⟨.one w, one w⟩) (fun _ _ _ _ _ hp hab hR ⟨h, e⟩ => ⟨.step hp hab hR h, step hp hab hR h e⟩)
  exact e
theorem HP.perm {P Q : Ps} (h : HP P) (hq : Q.Perm P) : HP Q := by
  induction h using HP.ind with
  | one w =>
    obtain rfl := List.perm_singleton.1 hq
    exact .one w
  | step hp hab hR h _ => exact .step (hq.trans hp) hab hR h
theorem HP.hc {P : Ps} (h : HP P) : HC (P.map (·.1)) (cost P) := by
  induction h using HP.ind with
  | one w =>
    have : cost [(w, 0)] = 0 := by simp [cost]
    rw [this]
    exact .one w
  | @step P R a b n hp hab hR h ih =>
    have e : cost P = cost ((a + b, n) :: R) + (a + b) := by
      rw [cost_perm hp]
      simp only [cost_cons, Nat.mul_add, Nat.add_mul]
      omega
    rw [e]
    refine .step (hp.map (·.1)) hab (fun c hc => ?_) ih
    obtain ⟨x, hx, rfl⟩ := List.mem_map.1 hc
    exact hR x hx
theorem HP.least {P Q : Ps} (h : HP P) (hq : (Q.map (·.1)).Perm (P.map (·.1))) (B : Nat) (hB : ∀ x ∈ Q, x.2 ≤ B) (hk : kr B Q ≤ 2 ^ B) : cost P ≤ cost Q := huff h.hc B Q hq hB hk
theorem HP.kraft {P : Ps} (h : HP P) (B : Nat) (hB : ∀ x ∈ P, x.2 ≤ B) : kr B P = 2 ^ B := by
  induction h using HP.ind with
  | one w => simp [kr]
  | @step P R a b n hp hab hR h ih =>
    have h1 : n + 1 ≤ B := hB (a, n + 1) (hp.mem_iff.2 List.mem_cons_self)
    have := ih fun x hx => by
      rcases List.mem_cons.1 hx with rfl | hx
      · show n ≤ B
        omega
      · exact hB x (hp.mem_iff.2 (List.mem_cons_of_mem _ (List.mem_cons_of_mem _ hx)))
    rw [kr_perm hp]
    simp only [kr_cons] at this ⊢
    rw [show B - n = B - (n + 1) + 1 from by omega, Nat.pow_succ] at this
    omega
/-- who is more frequent has no longer code -/
theorem HP.order {P : Ps} (h : HP P) (B : Nat) (hB : ∀ x ∈ P, x.2 ≤ B) {x y : Nat × Nat} {R : Ps} (hp : P.Perm (x :: y :: R)) (hxy : x.1 < y.1) : y.2 ≤ x.2 := by
  apply Classical.byContradiction
  intro hn
  obtain ⟨a, n⟩ := x
  obtain ⟨b, m⟩ := y
  have hab : a < b := hxy
  have hnm : n < m := Nat.lt_of_not_le hn
  have hk := h.kraft B hB
  have hle := h.least (Q := (a, m) :: (b, n) :: R) (hp.map (·.1)).symm B (fun z hz => by
    have h1 : n ≤ B := hB (a, n) (hp.mem_iff.2 List.mem_cons_self)
    have h2 : m ≤ B := hB (b, m) (hp.mem_iff.2 (List.mem_cons_of_mem _ List.mem_cons_self))
    rcases List.mem_cons.1 hz with rfl | hz
    · exact h2
    · rcases List.mem_cons.1 hz with rfl | hz
      · exact h1
      · exact hB z (hp.mem_iff.2 (List.mem_cons_of_mem _ (List.mem_cons_of_mem _ hz)))) (by
    rw [kr_perm hp] at hk
    simp only [kr_cons] at hk ⊢
    omega)
  rw [cost_perm hp] at hle
  simp only [cost_cons] at hle
  obtain ⟨u, rfl⟩ := Nat.le.dest (show a + 1 ≤ b from hab)
  obtain ⟨v, rfl⟩ := Nat.le.dest (show n + 1 ≤ m from hnm)
  simp only [Nat.add_mul, Nat.mul_add, Nat.one_mul, Nat.mul_one] at hle
  have := Nat.zero_le (u * v)
  omega

/-! ### FIBONACCI: a great length wants a great weight -/
def fb : Nat → Nat → Nat → Nat
  | 0, u, _ => u
  | D + 1, u, m => fb D (u + m) (max u m)
theorem fb_mono (D : Nat) {u u' m m' : Nat} (h1 : u ≤ u') (h2 : m ≤ m') : fb D u m ≤ fb D u' m' := by
  induction D generalizing u u' m m' with
  | zero => exact h1
  | succ D ih => exact ih (by omega) (by omega)
theorem HP.fib {P : Ps} (h : HP P) {x : Nat × Nat} {R : Ps} {m : Nat} (hp : P.Perm (x :: R)) (hm : ∀ y ∈ R, m ≤ y.1) : fb x.2 x.1 m ≤ (P.map (·.1)).sum := by
  induction h using HP.ind generalizing x R m with
  | one w =>
    obtain ⟨rfl, rfl⟩ : x = (w, 0) ∧ R = [] := by
      have := List.singleton_perm.1 hp
      exact ⟨by injection this with h1 h2; exact h1.symm, by injection this with h1 h2; exact h2.symm⟩
    simp [fb]
  | @step P S a b n hq hab hS h ih =>
    have hsum : (P.map (·.1)).sum = (((a + b, n) :: S : Ps).map (·.1)).sum := by
      have := (hq.map (·.1)).sum_nat
      simp only [List.map_cons, List.sum_cons] at this ⊢
      omega
    rw [hsum]
    have hpq := hp.symm.trans hq
    have hx : x ∈ (a, n + 1) :: (b, n + 1) :: S := hpq.mem_iff.1 List.mem_cons_self
    rcases List.mem_cons.1 hx with rfl | hx
    · have hR := hpq.cons_inv
      have hb : m ≤ b := hm (b, n + 1) (hR.mem_iff.2 List.mem_cons_self)
      have := ih (.refl _) hS
      refine Nat.le_trans ?_ this
      show fb n (a + m) (max a m) ≤ fb n (a + b) b
      exact fb_mono n (by omega) (by omega)
    · rcases List.mem_cons.1 hx with rfl | hx
      · have hR := (hpq.trans (List.Perm.swap _ _ _)).cons_inv
        have ha : m ≤ a := hm (a, n + 1) (hR.mem_iff.2 List.mem_cons_self)
        have := ih (.refl _) hS
        refine Nat.le_trans ?_ this
        show fb n (b + m) (max b m) ≤ fb n (a + b) b
        exact fb_mono n (by omega) (by omega)
      · have he := List.perm_cons_erase hx
        have h1 : R.Perm ((a, n + 1) :: (b, n + 1) :: S.erase x) := by
          have h2 : ((a, n + 1) :: (b, n + 1) :: S).Perm (x :: (a, n + 1) :: (b, n + 1) :: S.erase x) :=
            ((he.cons _).cons _).trans (((List.Perm.swap _ _ _).cons _).trans (List.Perm.swap _ _ _))
          exact (hpq.trans h2).cons_inv
        refine ih (R := (a + b, n) :: S.erase x) ((he.cons _).trans (List.Perm.swap _ _ _)) fun y hy => ?_
        rcases List.mem_cons.1 hy with rfl | hy
        · have := hm (a, n + 1) (h1.mem_iff.2 List.mem_cons_self)
          show m ≤ a + b
          dsimp only at this
          omega
        · exact hm y (h1.mem_iff.2 (List.mem_cons_of_mem _ (List.mem_cons_of_mem _ hy)))
theorem fb_add (D E u m : Nat) (hu : 1 ≤ u) (h : E ≤ D) : fb E u m ≤ fb D u m := by
  induction D generalizing E u m with
  | zero =>
    obtain rfl : E = 0 := by omega
    exact Nat.le_refl _
  | succ D ih =>
    cases E with
    | zero =>
      refine Nat.le_trans ?_ (ih 0 (u + m) (max u m) (by omega) (Nat.zero_le _))
      show u ≤ u + m
      omega
    | succ E => exact ih E _ _ (by omega) (by omega)
/-- 256 signs of at most 2^20 have lengths of at most 40 -/
theorem HP.bound {P : Ps} (h : HP P) (h1 : ∀ x ∈ P, 1 ≤ x.1) (hs : (P.map (·.1)).sum ≤ 268435456) : ∀ x ∈ P, x.2 ≤ 40 := by
  intro x hx
  apply Classical.byContradiction
  intro hn
  have he := List.perm_cons_erase hx
  have h2 := h.fib (m := 1) he fun y hy => h1 y (List.mem_of_mem_erase hy)
  have h3 := fb_mono x.2 (h1 x hx) (Nat.le_refl 1)
  have h4 := fb_add x.2 41 1 1 (Nat.le_refl 1) (by omega)
  have h5 : fb 41 1 1 = 433494437 := by decide +kernel
  omega
end Hf
end Go.Proofs.Ytgdkfaphbbdnbaa
