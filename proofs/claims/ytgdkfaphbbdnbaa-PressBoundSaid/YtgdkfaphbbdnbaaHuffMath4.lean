/-
  Codes (no Go in it): heaps of signs that are made one, and the lengths that signs get by it.
-/
import Derived.Test.YtgdkfaphbbdnbaaHuffMath2
namespace Go.Proofs.Ytgdkfaphbbdnbaa
namespace Hf

/-- a heap: its weight, its least sign, who is in it -/
structure Hp where
  w : Nat
  low : Nat
  mem : Nat → Bool
def less (a b : Hp) : Prop := a.w < b.w ∨ (a.w = b.w ∧ a.low < b.low)
theorem less_asymm {a b : Hp} (h : less a b) (h' : less b a) : False := by
  unfold less at h h'
  omega
def join (a b : Hp) : Hp := ⟨a.w + b.w, min a.low b.low, fun i => a.mem i || b.mem i⟩
/-- P19: as long as there is more than one heap the two least are made one; how often each sign's heap was made one -/
def Run (H : List Hp) (L : Nat → Nat) : Prop := ∀ M : List Hp → (Nat → Nat) → Prop, (∀ h, M [h] (fun _ => 0)) →
  (∀ (H R : List Hp) (a b : Hp) (L : Nat → Nat), H.Perm (a :: b :: R) → (∀ c ∈ b :: R, less a c) → (∀ c ∈ R, less b c) → M (join a b :: R) L → M H (fun i => (if a.mem i || b.mem i then 1 else 0) + L i)) → M H L
theorem Run.one (h : Hp) : Run [h] (fun _ => 0) := fun _ h1 _ => h1 h
theorem Run.step {H R : List Hp} {a b : Hp} {L : Nat → Nat} (hp : H.Perm (a :: b :: R)) (ha : ∀ c ∈ b :: R, less a c) (hb : ∀ c ∈ R, less b c) (h : Run (join a b :: R) L) :
    Run H (fun i => (if a.mem i || b.mem i then 1 else 0) + L i) := fun M h1 h2 => h2 _ _ _ _ _ hp ha hb (h M h1 h2)
theorem Run.ind {M : ∀ H L, Run H L → Prop} (one : ∀ h, M [h] (fun _ => 0) (Run.one h))
    (step : ∀ {H R : List Hp} {a b : Hp} {L : Nat → Nat} (hp : H.Perm (a :: b :: R)) (ha : ∀ c ∈ b :: R, less a c) (hb : ∀ c ∈ R, less b c) (h : Run (join a b :: R) L) (_ : M _ _ h),
      M H (fun i => (if a.mem i || b.mem i then 1 else 0) + L i) (Run.step hp ha hb h))
    {H : List Hp} {L : Nat → Nat} (h : Run H L) : M H L h := by
  obtain ⟨_, e⟩ := h (fun H L => ∃ h : Run H L, M H L h) (fun w => ⟨.one w, one w⟩) (fun _ _ _ _ _ hp ha hb ⟨h, e⟩ => ⟨.step hp ha hb h, step hp ha hb h e⟩)
  exact e
theorem least_one {a a' : Hp} {R R' : List Hp} (hp : (a :: R).Perm (a' :: R')) (ha : ∀ c ∈ R, less a c) (ha' : ∀ c ∈ R', less a' c) : a = a' ∧ R.Perm R' := by
  have e : a = a' := by
    apply Classical.byContradiction
    intro hn
    have h1 : a ∈ a' :: R' := hp.mem_iff.1 List.mem_cons_self
    have h2 : a' ∈ a :: R := hp.mem_iff.2 List.mem_cons_self
    rcases List.mem_cons.1 h1 with e | h1
    · exact hn e
    rcases List.mem_cons.1 h2 with e | h2
    · exact hn e.symm
    exact less_asymm (ha a' h2) (ha' a h1)
  subst e
  exact ⟨rfl, hp.cons_inv⟩
/-- there is one answer only, in whatever order heaps are kept -/
theorem Run.once {H H' : List Hp} {L L' : Nat → Nat} (h : Run H L) (hp : H.Perm H') (h' : Run H' L') : L = L' := by
  induction h using Run.ind generalizing H' L' with
  | one x =>
    induction h' using Run.ind with
    | one y => rfl
    | step hq _ _ _ _ =>
      have := (hp.trans hq).length_eq
      simp only [List.length_cons, List.length_nil] at this
      omega
  | @step H R a b L hq ha hb h ih =>
    induction h' using Run.ind with
    | one y =>
      have := (hp.symm.trans hq).length_eq
      simp only [List.length_cons, List.length_nil] at this
      omega
    | @step _ R' a' b' L1 hq' ha' hb' h1 _ =>
      obtain ⟨rfl, e⟩ := least_one (hq.symm.trans (hp.trans hq')) ha ha'
      obtain ⟨rfl, e2⟩ := least_one e hb hb'
      rw [ih (e2.cons _) h1]
theorem Run.perm {H H' : List Hp} {L : Nat → Nat} (h : Run H L) (hp : H'.Perm H) : Run H' L := by
  induction h using Run.ind with
  | one x =>
    obtain rfl := List.perm_singleton.1 hp
    exact .one x
  | step hq ha hb h _ => exact .step (hp.trans hq) ha hb h
/-- heaps whose least sign is in them, and of which no two have a sign together -/
structure Apart (H : List Hp) : Prop where
  low : ∀ h ∈ H, h.mem h.low = true
  two : H.Pairwise fun a b => ∀ i, ¬ (a.mem i = true ∧ b.mem i = true)
theorem Apart.perm {H H' : List Hp} (h : Apart H) (hp : H.Perm H') : Apart H' :=
  ⟨fun x hx => h.low x (hp.mem_iff.2 hx), hp.pairwise h.two fun h i ⟨h1, h2⟩ => h i ⟨h2, h1⟩⟩
theorem Apart.join {R : List Hp} {a b : Hp} (h : Apart (a :: b :: R)) : Apart (join a b :: R) := by
  obtain ⟨h1, h2⟩ := h
  obtain ⟨ha, h2⟩ := List.pairwise_cons.1 h2
  obtain ⟨hb, h2⟩ := List.pairwise_cons.1 h2
  refine ⟨fun x hx => ?_, List.pairwise_cons.2 ⟨fun c hc i ⟨hi, hci⟩ => ?_, h2⟩⟩
  · rcases List.mem_cons.1 hx with rfl | hx
    · have e1 := h1 a List.mem_cons_self
      have e2 := h1 b (List.mem_cons_of_mem _ List.mem_cons_self)
      show (a.mem (min a.low b.low) || b.mem (min a.low b.low)) = true
      rcases Nat.le_total a.low b.low with e | e
      · rw [Nat.min_eq_left e, e1]; rfl
      · rw [Nat.min_eq_right e, e2]; simp
    · exact h1 x (List.mem_cons_of_mem _ (List.mem_cons_of_mem _ hx))
  · have hi : (a.mem i || b.mem i) = true := hi
    rcases Bool.or_eq_true_iff.1 hi with e | e
    · exact ha c (List.mem_cons_of_mem _ hc) i ⟨e, hci⟩
    · exact hb c hc i ⟨e, hci⟩
/-- all signs of a heap have one length -/
theorem Run.same {H : List Hp} {L : Nat → Nat} (h : Run H L) (hA : Apart H) : ∀ x ∈ H, ∀ i, x.mem i = true → L i = L x.low := by
  induction h using Run.ind with
  | one y => exact fun _ _ _ _ => rfl
  | @step H R a b L hp ha hb h ih =>
    have hA' := hA.perm hp
    have hJ := hA'.join
    have key := ih hJ
    intro x hx i hi
    obtain ⟨h1, h2⟩ := hA'
    obtain ⟨p1, h2⟩ := List.pairwise_cons.1 h2
    obtain ⟨p2, _⟩ := List.pairwise_cons.1 h2
    have hab : ∀ i, (a.mem i || b.mem i) = true → L i = L (Hf.join a b).low := fun i hi => key _ List.mem_cons_self i hi
    have e1 := h1 a List.mem_cons_self
    have e2 := h1 b (List.mem_cons_of_mem _ List.mem_cons_self)
    show (if a.mem i || b.mem i then 1 else 0) + L i = (if a.mem x.low || b.mem x.low then 1 else 0) + L x.low
    rcases List.mem_cons.1 (hp.mem_iff.1 hx) with rfl | hx
    · rw [hi, e1, hab i (by rw [hi]; rfl), hab x.low (by rw [e1]; rfl)]
      simp
    rcases List.mem_cons.1 hx with rfl | hx
    · rw [hi, e2, hab i (by rw [hi]; simp), hab x.low (by rw [e2]; simp)]
      simp
    · have n1 : ∀ j, x.mem j = true → (a.mem j || b.mem j) = false := fun j hj => by
        rw [Bool.or_eq_false_iff]
        exact ⟨Bool.eq_false_iff.2 fun e => p1 x (List.mem_cons_of_mem _ hx) j ⟨e, hj⟩, Bool.eq_false_iff.2 fun e => p2 x hx j ⟨e, hj⟩⟩
      rw [n1 i hi, n1 x.low (h1 x (List.mem_cons_of_mem _ (List.mem_cons_of_mem _ hx))), key x (List.mem_cons_of_mem _ hx) i hi]
theorem Run.hp {H : List Hp} {L : Nat → Nat} (h : Run H L) (hA : Apart H) : HP (H.map fun x => (x.w, L x.low)) := by
  induction h using Run.ind with
  | one y => exact .one _
  | @step H R a b L hp ha hb h ih =>
    have hA' := hA.perm hp
    have hJ := hA'.join
    have hsame := h.same hJ
    have key : HP ((a.w + b.w, L (Hf.join a b).low) :: R.map fun x => (x.w, L x.low)) := ih hJ
    obtain ⟨h1, h2⟩ := hA'
    obtain ⟨p1, h2⟩ := List.pairwise_cons.1 h2
    obtain ⟨p2, _⟩ := List.pairwise_cons.1 h2
    have e1 := h1 a List.mem_cons_self
    have e2 := h1 b (List.mem_cons_of_mem _ List.mem_cons_self)
    have la : L a.low = L (Hf.join a b).low := hsame _ List.mem_cons_self _ (by show (a.mem a.low || b.mem a.low) = true; rw [e1]; rfl)
    have lb : L b.low = L (Hf.join a b).low := hsame _ List.mem_cons_self _ (by show (a.mem b.low || b.mem b.low) = true; rw [e2]; simp)
    have hRm : (R.map fun x => (x.w, (if a.mem x.low || b.mem x.low then 1 else 0) + L x.low)) = R.map fun x => (x.w, L x.low) := by
      refine List.map_congr_left fun x hx => ?_
      have hxl := h1 x (List.mem_cons_of_mem _ (List.mem_cons_of_mem _ hx))
      have : (a.mem x.low || b.mem x.low) = false := by
        rw [Bool.or_eq_false_iff]
        exact ⟨Bool.eq_false_iff.2 fun e => p1 x (List.mem_cons_of_mem _ hx) _ ⟨e, hxl⟩, Bool.eq_false_iff.2 fun e => p2 x hx _ ⟨e, hxl⟩⟩
      rw [this]
      simp
    refine HP.step (a := a.w) (b := b.w) (n := L (Hf.join a b).low) (R := R.map fun x : Hp => (x.w, L x.low)) ?_ ?_ ?_ key
    · refine (hp.map _).trans ?_
      rw [List.map_cons, List.map_cons, hRm]
      dsimp only
      rw [e1, e2, la, lb]
      simp [Nat.add_comm]
    · have := ha b List.mem_cons_self
      unfold less at this
      omega
    · intro c hc
      obtain ⟨x, hx, rfl⟩ := List.mem_map.1 hc
      have := hb x hx
      unfold less at this
      show b.w ≤ x.w
      omega
end Hf
end Go.Proofs.Ytgdkfaphbbdnbaa
