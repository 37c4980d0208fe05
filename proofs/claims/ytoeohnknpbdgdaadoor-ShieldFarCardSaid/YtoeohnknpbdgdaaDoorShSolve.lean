/-
  Plain facts (no Go in here): equations whose leading squares have the kernel 0 are solved without a swap: step by step row k is divided by its weight k and taken out of all others.
-/
import Derived.Test.YtoeohnknpbdgdaaDoorShLin
namespace Go.Proofs.YtoeohnknpbdgdaaDoor
namespace Fd
open Rl (xor4)

/-- a list times a number, and a list with another one times a number added -/
def mulL (l : List Nat) (f : Nat) : List Nat := l.map fun x => M x f
def addL (s l : List Nat) (f : Nat) : List Nat := List.zipWith (fun x y => x ^^^ M y f) s l
theorem mulL_length (l : List Nat) (f : Nat) : (mulL l f).length = l.length := List.length_map ..
theorem addL_length {s l : List Nat} (h : s.length = l.length) (f : Nat) : (addL s l f).length = s.length := by
  rw [addL, List.length_zipWith]; omega
theorem get_lt {l : List Nat} (h : Bs l) (k : Nat) : l.getD k 0 < 256 := by
  rw [List.getD_eq_getElem?_getD]
  by_cases hk : k < l.length
  · rw [List.getElem?_eq_getElem hk]; exact h _ (List.getElem_mem hk)
  · rw [List.getElem?_eq_none (by omega)]; show (0 : Nat) < _; omega
theorem mulL_get (l : List Nat) (f k : Nat) : (mulL l f).getD k 0 = M (l.getD k 0) f := by
  rw [List.getD_eq_getElem?_getD, List.getD_eq_getElem?_getD, mulL, List.getElem?_map]
  by_cases hk : k < l.length
  · rw [List.getElem?_eq_getElem hk]; rfl
  · rw [List.getElem?_eq_none (by omega)]; exact (zero_M f).symm
theorem addL_get {s l : List Nat} (h : s.length = l.length) (f k : Nat) : (addL s l f).getD k 0 = s.getD k 0 ^^^ M (l.getD k 0) f := by
  rw [List.getD_eq_getElem?_getD, List.getD_eq_getElem?_getD, List.getD_eq_getElem?_getD, addL, List.getElem?_zipWith]
  by_cases hk : k < s.length
  · rw [List.getElem?_eq_getElem hk, List.getElem?_eq_getElem (by omega)]; rfl
  · rw [List.getElem?_eq_none (by omega), List.getElem?_eq_none (by omega)]
    show 0 = 0 ^^^ M 0 f
    rw [zero_M]; rfl
theorem mulL_bs {l : List Nat} (h : Bs l) (f : Nat) : Bs (mulL l f) := fun c hc => by
  obtain ⟨a, ha, rfl⟩ := List.mem_map.mp hc
  exact M_lt (h a ha) f
theorem addL_bs {s l : List Nat} (hs : Bs s) (hl : Bs l) (f : Nat) : Bs (addL s l f) := fun c hc => by
  obtain ⟨k, hk, rfl⟩ := List.getElem_of_mem hc
  rw [addL, List.length_zipWith] at hk
  simp only [addL, List.getElem_zipWith]
  exact xor_lt8 (hs _ (List.getElem_mem _)) (M_lt (hl _ (List.getElem_mem _)) f)

/-- an equation: its weights and its bytes -/
abbrev Eqn := List Nat × List Nat
def mulE (e : Eqn) (f : Nat) : Eqn := (mulL e.1 f, mulL e.2 f)
def addE (e g : Eqn) (f : Nat) : Eqn := (addL e.1 g.1 f, addL e.2 g.2 f)
/-- equation k divided by its weight k -/
def one (S : Nat → Eqn) (k : Nat) : Eqn := mulE (S k) (inv ((S k).1.getD k 0))
/-- step k: up to o the others have it taken out -/
def stepTo (S : Nat → Eqn) (k o : Nat) : Nat → Eqn := fun r =>
  if r = k then one S k else if r < o then addE (S r) (one S k) ((S r).1.getD k 0) else S r
def solved (S : Nat → Eqn) (L : Nat) : Nat → Nat → Eqn
  | 0 => S
  | k + 1 => stepTo (solved S L k) k L
structure Shape (S : Nat → Eqn) (L m : Nat) : Prop where
  w : ∀ r, r < L → (S r).1.length = L
  b : ∀ r, r < L → (S r).2.length = m
  ws : ∀ r, r < L → Bs (S r).1
  bs : ∀ r, r < L → Bs (S r).2
theorem Shape.step {S : Nat → Eqn} {L m k o : Nat} (h : Shape S L m) (hk : k < L) : Shape (stepTo S k o) L m := by
  have hone : (one S k).1.length = L ∧ (one S k).2.length = m ∧ Bs (one S k).1 ∧ Bs (one S k).2 :=
    ⟨(mulL_length _ _).trans (h.w k hk), (mulL_length _ _).trans (h.b k hk), mulL_bs (h.ws k hk) _, mulL_bs (h.bs k hk) _⟩
  refine ⟨fun r hr => ?_, fun r hr => ?_, fun r hr => ?_, fun r hr => ?_⟩ <;> unfold stepTo <;> split
  · exact hone.1
  · split
    · exact (addL_length (by rw [h.w r hr, hone.1]) _).trans (h.w r hr)
    · exact h.w r hr
  · exact hone.2.1
  · split
    · exact (addL_length (by rw [h.b r hr, hone.2.1]) _).trans (h.b r hr)
    · exact h.b r hr
  · exact hone.2.2.1
  · split
    · exact addL_bs (h.ws r hr) hone.2.2.1 _
    · exact h.ws r hr
  · exact hone.2.2.2
  · split
    · exact addL_bs (h.bs r hr) hone.2.2.2 _
    · exact h.bs r hr
theorem Shape.solved {S : Nat → Eqn} {L m : Nat} (h : Shape S L m) : ∀ k, k ≤ L → Shape (solved S L k) L m
  | 0, _ => h
  | k + 1, hk => (Shape.solved h k (by omega)).step (by omega)
theorem stepTo_own (S : Nat → Eqn) (k o : Nat) : stepTo S k o k = one S k := if_pos rfl
theorem stepTo_more {S : Nat → Eqn} {k o : Nat} (ho : o ≠ k) : stepTo S k (o + 1) = fun r => if r = o then addE (stepTo S k o r) (one S k) ((stepTo S k o r).1.getD k 0) else stepTo S k o r := by
  funext r
  by_cases hr : r = o
  · subst hr
    rw [if_pos rfl]
    unfold stepTo
    rw [if_neg ho, if_pos (by omega), if_neg ho, if_neg (by omega)]
  · rw [if_neg hr]
    unfold stepTo
    by_cases hk : r = k
    · rw [if_pos hk, if_pos hk]
    · rw [if_neg hk, if_neg hk]
      by_cases h : r < o
      · rw [if_pos h, if_pos (by omega)]
      · rw [if_neg h, if_neg (by omega)]
theorem stepTo_same (S : Nat → Eqn) (k : Nat) : stepTo S k (k + 1) = stepTo S k k := by
  funext r
  unfold stepTo
  by_cases hk : r = k
  · rw [if_pos hk, if_pos hk]
  · rw [if_neg hk, if_neg hk]
    by_cases h : r < k
    · rw [if_pos h, if_pos (by omega)]
    · rw [if_neg h, if_neg (by omega)]

/-- weights and bytes, read -/
def wA (S : Nat → Eqn) (r c : Nat) : Nat := (S r).1.getD c 0
def bA (S : Nat → Eqn) (at_ r : Nat) : Nat := (S r).2.getD at_ 0
theorem step_own {S : Nat → Eqn} {L k : Nat} (c : Nat) : wA (stepTo S k L) k c = M (wA S k c) (inv (wA S k k)) := by
  unfold wA
  rw [stepTo_own]
  exact mulL_get _ _ _
theorem step_ownb {S : Nat → Eqn} {L k : Nat} (a : Nat) : bA (stepTo S k L) a k = M (bA S a k) (inv (wA S k k)) := by
  unfold bA
  rw [stepTo_own]
  exact mulL_get _ _ _
theorem step_oth {S : Nat → Eqn} {L m k : Nat} (h : Shape S L m) (hk : k < L) {r : Nat} (hr : r < L) (hne : r ≠ k) (c : Nat) : wA (stepTo S k L) r c = wA S r c ^^^ M (wA (stepTo S k L) k c) (wA S r k) := by
  rw [step_own]
  unfold wA stepTo
  rw [if_neg hne, if_pos hr]
  show (addL (S r).1 (one S k).1 _).getD c 0 = _
  rw [addL_get (by rw [h.w r hr]; exact ((mulL_length _ _).trans (h.w k hk)).symm)]
  congr 2
  exact mulL_get _ _ _
theorem step_othb {S : Nat → Eqn} {L m k : Nat} (h : Shape S L m) (hk : k < L) {r : Nat} (hr : r < L) (hne : r ≠ k) (a : Nat) : bA (stepTo S k L) a r = bA S a r ^^^ M (bA (stepTo S k L) a k) (wA S r k) := by
  rw [step_ownb]
  unfold bA wA stepTo
  rw [if_neg hne, if_pos hr]
  show (addL (S r).2 (one S k).2 _).getD a 0 = _
  rw [addL_get (by rw [h.b r hr]; exact ((mulL_length _ _).trans (h.b k hk)).symm)]
  congr 2
  exact mulL_get _ _ _
theorem wA_by {S : Nat → Eqn} {L m : Nat} (h : Shape S L m) {r : Nat} (hr : r < L) : By (wA S r) := fun c => get_lt (h.ws r hr) c
theorem bA_lt {S : Nat → Eqn} {L m : Nat} (h : Shape S L m) {r : Nat} (hr : r < L) (a : Nat) : bA S a r < 256 := get_lt (h.bs r hr) a

theorem rw_own {S : Nat → Eqn} {L m k : Nat} (h : Shape S L m) (hk : k < L) {v : Nat → Nat} (hv : By v) : rw_ (wA (stepTo S k L) k) v L = M (inv (wA S k k)) (rw_ (wA S k) v L) := by
  have hi := inv_lt (wA_by h hk k)
  rw [← rw_scale _ L hi (wA_by h hk) hv]
  exact sm_congr fun c _ => by rw [step_own, M_comm (wA_by h hk c) hi]
theorem rw_oth {S : Nat → Eqn} {L m k : Nat} (h : Shape S L m) (hk : k < L) {v : Nat → Nat} (hv : By v) {r : Nat} (hr : r < L) (hne : r ≠ k) : rw_ (wA (stepTo S k L) r) v L = rw_ (wA S r) v L ^^^ M (wA S r k) (rw_ (wA (stepTo S k L) k) v L) := by
  have hs := h.step (o := L) hk
  have hr1 := wA_by h hr k
  rw [← rw_add _ L hr1 (wA_by hs hk) hv]
  exact sm_congr fun c _ => by rw [step_oth h hk hr hne, M_comm (wA_by hs hk c) hr1]
theorem xor_cancel {a b c : Nat} (h : a ^^^ c = b ^^^ c) : a = b := by
  have : a ^^^ c ^^^ c = b ^^^ c ^^^ c := by rw [h]
  rwa [xor_twice, xor_twice] at this
/-- each leading square has the kernel 0 -/
def Lead (A : Nat → Nat → Nat) (L : Nat) : Prop := ∀ k, k < L → ∀ v, By v → (∀ c, k < c → v c = 0) → (∀ r, r ≤ k → rw_ (A r) v L = 0) → v k = 0
structure Going (S0 S : Nat → Eqn) (L m k : Nat) : Prop where
  shape : Shape S L m
  unit : ∀ r c, r < L → c < k → wA S r c = if r = c then 1 else 0
  kern : ∀ v, By v → ∀ q, k ≤ q + 1 → q < L → (∀ r, r ≤ q → rw_ (wA S r) v L = 0) → ∀ r, r ≤ q → rw_ (wA S0 r) v L = 0
  sol : ∀ v, By v → ∀ a, (∀ r, r < L → rw_ (wA S r) v L = bA S a r) → ∀ r, r < L → rw_ (wA S0 r) v L = bA S0 a r
theorem Going.pivot {S0 S : Nat → Eqn} {L m k : Nat} (g : Going S0 S L m k) (hl : Lead (wA S0) L) (hk : k < L) : wA S k k ≠ 0 := by
  intro h0
  have hv : By fun c => if c < k then wA S c k else if c = k then 1 else 0 := fun c => by
    dsimp only
    split
    · exact wA_by g.shape (by omega) k
    · split <;> omega
  have hz := g.kern _ hv k (by omega) hk (fun r hr => ?_)
  · have := hl k hk _ hv (fun c hc => by rw [if_neg (by omega), if_neg (by omega)]) hz
    rw [if_neg (by omega), if_pos rfl] at this
    omega
  · unfold rw_
    rcases Nat.lt_or_ge r k with hlt | hge
    · -- one term at r, one at k
      have e := sm_cut (f := fun c => M (wA S r c) (if c < k then wA S c k else if c = k then 1 else 0)) (k := k + 1) (L - (k + 1)) (fun c h1 _ => by rw [if_neg (by omega), if_neg (by omega), M_zero])
      rw [show k + 1 + (L - (k + 1)) = L from by omega] at e
      rw [e, sm, if_neg (by omega), if_pos rfl, M_one (wA_by g.shape (by omega) k), sm_one (p := r) hlt]
      · rw [if_pos hlt, g.unit r r (by omega) hlt, if_pos rfl, one_M (wA_by g.shape (by omega) k), Nat.xor_self]
      · intro c hc hne
        rw [g.unit r c (by omega) hc, if_neg (fun e => hne e.symm), zero_M]
    · obtain rfl : r = k := by omega
      refine sm_zero fun c hc => ?_
      by_cases h1 : c < r
      · rw [g.unit r c hk h1, if_neg (by omega), zero_M]
      · by_cases h2 : c = r
        · subst h2; rw [h0, zero_M]
        · dsimp only
          rw [if_neg h1, if_neg h2, M_zero]
theorem Going.step {S0 S : Nat → Eqn} {L m k : Nat} (g : Going S0 S L m k) (hl : Lead (wA S0) L) (hk : k < L) : Going S0 (stepTo S k L) L m (k + 1) := by
  have hp := g.pivot hl hk
  have hsh := g.shape
  have hsn := hsh.step (o := L) hk
  have hkk := wA_by hsh hk k
  obtain ⟨i1, i2⟩ := inv_ok hkk hp
  have inz : inv (wA S k k) ≠ 0 := fun e => by rw [e, M_zero] at i2; omega
  have hunit : wA (stepTo S k L) k k = 1 := by rw [step_own, i2]
  refine ⟨hsn, fun r c hr hc => ?_, fun v hv q hq hqL hz => ?_, fun v hv a hs => ?_⟩
  · rcases Nat.lt_or_ge c k with hck | hck
    · have hkc : wA (stepTo S k L) k c = 0 := by rw [step_own, g.unit k c hk hck, if_neg (by omega), zero_M]
      by_cases hrk : r = k
      · subst hrk
        rw [hkc, if_neg (by omega)]
      · rw [step_oth hsh hk hr hrk, hkc, zero_M, Nat.xor_zero]
        exact g.unit r c hr hck
    · obtain rfl : c = k := by omega
      by_cases hrk : r = c
      · subst hrk
        rw [hunit, if_pos rfl]
      · rw [step_oth hsh hk hr hrk, hunit, one_M (wA_by hsh hr c), Nat.xor_self, if_neg hrk]
  · refine g.kern v hv q (by omega) hqL ?_
    have hzk := hz k (by omega)
    intro r hr
    by_cases hrk : r = k
    · subst hrk
      rw [rw_own hsh hk hv] at hzk
      exact ((M_eq_zero i1 (rw_lt (wA_by hsh hk) L)).mp hzk).resolve_left inz
    · have := hz r hr
      rwa [rw_oth hsh hk hv (by omega) hrk, hzk, M_zero, Nat.xor_zero] at this
  · refine g.sol v hv a ?_
    have hsk := hs k hk
    intro r hr
    by_cases hrk : r = k
    · subst hrk
      rw [rw_own hsh hk hv, step_ownb, M_comm (bA_lt hsh hk a) i1] at hsk
      exact M_cancel i1 (rw_lt (wA_by hsh hk) L) (bA_lt hsh hk a) inz hsk
    · have := hs r hr
      rw [rw_oth hsh hk hv hr hrk, hsk, step_othb hsh hk hr hrk, M_comm (bA_lt hsn hk a) (wA_by hsh hr k)] at this
      exact xor_cancel this
theorem going {S0 : Nat → Eqn} {L m : Nat} (h : Shape S0 L m) (hl : Lead (wA S0) L) : ∀ k, k ≤ L → Going S0 (solved S0 L k) L m k
  | 0, _ => ⟨h, fun _ _ _ hc => by omega, fun _ _ _ _ _ hz => hz, fun _ _ _ hs => hs⟩
  | k + 1, hk => (going h hl k (by omega)).step hl (by omega)
/-- what comes out solves them -/
theorem solves {S0 : Nat → Eqn} {L m : Nat} (h : Shape S0 L m) (hl : Lead (wA S0) L) (a : Nat) (v : Nat → Nat) (hv : By v) (he : ∀ r, r < L → v r = bA (solved S0 L L) a r) : ∀ r, r < L → rw_ (wA S0 r) v L = bA S0 a r := by
  have g := going h hl L (Nat.le_refl _)
  refine g.sol v hv a fun r hr => ?_
  unfold rw_
  rw [sm_one (p := r) hr]
  · rw [g.unit r r hr hr, if_pos rfl, one_M (hv r), he r hr]
  · intro c hc hne
    rw [g.unit r c hr hc, if_neg (fun e => hne e.symm), zero_M]
end Fd
end Go.Proofs.YtoeohnknpbdgdaaDoor
