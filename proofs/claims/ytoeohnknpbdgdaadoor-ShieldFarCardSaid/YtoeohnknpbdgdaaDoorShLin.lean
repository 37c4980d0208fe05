/-
  Plain facts (no Go in here): equations over the field of 256: fewer equations than unknowns have a solution that isn't 0; swapping, scaling and adding rows keeps what solves them; a pivot is always found; the shards' equations have one solution only.
-/
import Derived.Test.YtoeohnknpbdgdaaDoorShMath
namespace Go.Proofs.YtoeohnknpbdgdaaDoor
namespace Fd
open Rl (xor4)

/-- the sum of the first k -/
def sm (f : Nat → Nat) : Nat → Nat
  | 0 => 0
  | k + 1 => sm f k ^^^ f k
theorem sm_lt {f : Nat → Nat} {k : Nat} (h : ∀ c, c < k → f c < 256) : sm f k < 256 := by
  induction k with
  | zero => show (0 : Nat) < _; omega
  | succ k ih => exact xor_lt8 (ih fun c hc => h c (by omega)) (h k (by omega))
theorem sm_congr {f g : Nat → Nat} {k : Nat} (h : ∀ c, c < k → f c = g c) : sm f k = sm g k := by
  induction k with
  | zero => rfl
  | succ k ih => rw [sm, sm, ih fun c hc => h c (by omega), h k (by omega)]
theorem sm_zero {f : Nat → Nat} {k : Nat} (h : ∀ c, c < k → f c = 0) : sm f k = 0 := by
  induction k with
  | zero => rfl
  | succ k ih => rw [sm, ih fun c hc => h c (by omega), h k (by omega)]; rfl
theorem sm_xor (f g : Nat → Nat) : ∀ k, sm (fun c => f c ^^^ g c) k = sm f k ^^^ sm g k
  | 0 => (Nat.xor_self 0).symm
  | k + 1 => by rw [sm, sm, sm, sm_xor f g k, xor4]
theorem sm_M (a : Nat) (f : Nat → Nat) : ∀ k, sm (fun c => M a (f c)) k = M a (sm f k)
  | 0 => (M_zero a).symm
  | k + 1 => by rw [sm, sm, sm_M a f k, M_xor]
/-- one term alone -/
theorem sm_one {f : Nat → Nat} {k p : Nat} (hp : p < k) (h : ∀ c, c < k → c ≠ p → f c = 0) : sm f k = f p := by
  induction k with
  | zero => omega
  | succ k ih =>
    rw [sm]
    by_cases e : p = k
    · subst e
      rw [sm_zero fun c hc => h c (by omega) (by omega), Nat.zero_xor]
    · rw [ih (by omega) fun c hc hcp => h c (by omega) hcp, h k (by omega) (fun e' => e e'.symm), Nat.xor_zero]
/-- what lies behind adds nothing -/
theorem sm_cut {f : Nat → Nat} {k : Nat} : ∀ d, (∀ c, k ≤ c → c < k + d → f c = 0) → sm f (k + d) = sm f k
  | 0, _ => rfl
  | d + 1, h => by rw [← Nat.add_assoc, sm, sm_cut d fun c h1 h2 => h c h1 (by omega), h (k + d) (by omega) (by omega), Nat.xor_zero]

/-- a row times a column -/
def rw_ (A : Nat → Nat) (v : Nat → Nat) (n : Nat) : Nat := sm (fun c => M (A c) (v c)) n
def By (f : Nat → Nat) : Prop := ∀ c, f c < 256
theorem rw_lt {A v : Nat → Nat} (hA : By A) (n : Nat) : rw_ A v n < 256 := sm_lt fun c _ => M_lt (hA c) _
theorem rw_add {A B v : Nat → Nat} (f n : Nat) (hf : f < 256) (hB : By B) (hv : By v) : rw_ (fun c => A c ^^^ M f (B c)) v n = rw_ A v n ^^^ M f (rw_ B v n) := by
  unfold rw_
  rw [← sm_M, ← sm_xor]
  exact sm_congr fun c _ => by rw [xor_M, M_assoc hf (hB c) (hv c)]
theorem rw_scale {B v : Nat → Nat} (f n : Nat) (hf : f < 256) (hB : By B) (hv : By v) : rw_ (fun c => M f (B c)) v n = M f (rw_ B v n) := by
  unfold rw_
  rw [← sm_M]
  exact sm_congr fun c _ => by rw [M_assoc hf (hB c) (hv c)]

/-- fewer equations than unknowns: not 0 alone -/
theorem under : ∀ (e : Nat) (A : Nat → Nat → Nat), (∀ r, By (A r)) → ∃ v, By v ∧ (∃ c, c ≤ e ∧ v c ≠ 0) ∧ ∀ r, r < e → rw_ (A r) v (e + 1) = 0
  | 0, _, _ => ⟨fun _ => 1, fun _ => (by omega : 1 < 256), ⟨0, by omega, Nat.one_ne_zero⟩, fun r hr => by omega⟩
  | e + 1, A, hA => by
    by_cases hz : ∀ r, r < e + 1 → A r (e + 1) = 0
    · refine ⟨fun c => if c = e + 1 then 1 else 0, fun c => by dsimp only; split <;> omega, ⟨e + 1, by omega, by simp⟩, fun r hr => ?_⟩
      refine sm_zero fun c hc => ?_
      dsimp only
      by_cases h : c = e + 1
      · rw [h, hz r hr, zero_M]
      · rw [if_neg h, M_zero]
    · obtain ⟨p, hp⟩ := Classical.not_forall.mp hz
      obtain ⟨hpe, hp0⟩ := Classical.not_imp.mp hp
      obtain ⟨g1, g2⟩ := inv_ok (hA p (e + 1)) hp0
      obtain ⟨u, hu, hun, hs⟩ := under e (fun r c => A (if r < p then r else r + 1) c ^^^ M (M (A (if r < p then r else r + 1) (e + 1)) (inv (A p (e + 1)))) (A p c))
        (fun r c => xor_lt8 (hA _ c) (M_lt (M_lt (hA _ _) _) _))
      obtain ⟨S, hS⟩ : ∃ S, S = rw_ (A p) u (e + 1) := ⟨_, rfl⟩
      have hSl : S < 256 := by rw [hS]; exact rw_lt (hA p) _
      have hT : M (inv (A p (e + 1))) S < 256 := M_lt g1 _
      have hv : By fun c => if c = e + 1 then M (inv (A p (e + 1))) S else u c := fun c => by
        dsimp only
        split
        · exact hT
        · exact hu c
      have key : ∀ B : Nat → Nat, rw_ B (fun c => if c = e + 1 then M (inv (A p (e + 1))) S else u c) (e + 1 + 1) = rw_ B u (e + 1) ^^^ M (B (e + 1)) (M (inv (A p (e + 1))) S) := fun B => by
        unfold rw_
        rw [sm]
        dsimp only
        rw [if_pos rfl]
        congr 1
        exact sm_congr fun c hc => by rw [if_neg (by omega)]
      refine ⟨_, hv, ?_, fun r hr => ?_⟩
      · obtain ⟨c, hc, hc0⟩ := hun
        exact ⟨c, by omega, by rw [if_neg (by omega)]; exact hc0⟩
      · rw [key]
        by_cases hrp : r = p
        · subst hrp
          rw [← hS, ← M_assoc (hA r _) g1 hSl, g2, one_M hSl, Nat.xor_self]
        · obtain ⟨q, hq, hqr⟩ : ∃ q, q < e ∧ (if q < p then q else q + 1) = r := by
            by_cases h : r < p
            · exact ⟨r, by omega, if_pos h⟩
            · exact ⟨r - 1, by omega, by rw [if_neg (by omega)]; omega⟩
          have := hs q hq
          rw [hqr] at this
          have hm : M (A r (e + 1)) (inv (A p (e + 1))) < 256 := M_lt (hA r _) _
          rw [rw_add _ _ hm (hA p) hu, ← hS, M_assoc (hA r _) g1 hSl] at this
          exact this

/-- nothing but 0 solves the equations without their right sides -/
def Ker (A : Nat → Nat → Nat) (n : Nat) : Prop := ∀ v, By v → (∀ r, r < n → rw_ (A r) v n = 0) → ∀ c, c < n → v c = 0
/-- a pivot -/
theorem pivot {A : Nat → Nat → Nat} {n c : Nat} (hA : ∀ r, By (A r)) (hk : Ker A n) (hc : c < n) (h0 : ∀ r, c ≤ r → r < n → ∀ j, j < c → A r j = 0) : ∃ r, c ≤ r ∧ r < n ∧ A r c ≠ 0 := by
  refine Classical.byContradiction fun hq => ?_
  have hz : ∀ r, c ≤ r → r < n → ∀ j, j ≤ c → A r j = 0 := fun r h1 h2 j hj => by
    by_cases e : j = c
    · subst e
      exact Classical.byContradiction fun h => hq ⟨r, h1, h2, h⟩
    · exact h0 r h1 h2 j (by omega)
  obtain ⟨v, hv, ⟨d, hd, hd0⟩, hs⟩ := under c A hA
  have hw : By fun j => if j ≤ c then v j else 0 := fun j => by
    dsimp only
    split
    · exact hv j
    · omega
  have hsame : ∀ r, rw_ (A r) (fun j => if j ≤ c then v j else 0) n = rw_ (A r) v (c + 1) := fun r => by
    unfold rw_
    have := sm_cut (f := fun j => M (A r j) (if j ≤ c then v j else 0)) (k := c + 1) (n - (c + 1)) (fun j h1 _ => by rw [if_neg (by omega), M_zero])
    rw [show c + 1 + (n - (c + 1)) = n from by omega] at this
    rw [this]
    exact sm_congr fun j hj => by rw [if_pos (by omega)]
  have := hk _ hw (fun r hr => by
    rw [hsame]
    by_cases h : r < c
    · exact hs r h
    · exact sm_zero fun j hj => by rw [hz r (by omega) hr j (by omega), zero_M]) d (by omega)
  rw [if_pos hd] at this
  exact hd0 this

/-- v solves the equations -/
def Sol (A : Nat → Nat → Nat) (b : Nat → Nat) (n : Nat) (v : Nat → Nat) : Prop := ∀ r, r < n → rw_ (A r) v n = b r
theorem sol_swap {A : Nat → Nat → Nat} {b v : Nat → Nat} {n p q : Nat} (hp : p < n) (hq : q < n) :
    Sol (fun r => A (if r = p then q else if r = q then p else r)) (fun r => b (if r = p then q else if r = q then p else r)) n v ↔ Sol A b n v := by
  constructor
  · intro h r hr
    by_cases h1 : r = p
    · have := h q hq
      dsimp only at this
      by_cases e : q = p
      · rw [if_pos e] at this; rw [h1, ← e]; exact this
      · rw [if_neg e, if_pos rfl] at this; rw [h1]; exact this
    · by_cases h2 : r = q
      · have := h p hp
        dsimp only at this
        rw [if_pos rfl] at this; rw [h2]; exact this
      · have := h r hr
        dsimp only at this
        rw [if_neg h1, if_neg h2] at this; exact this
  · intro h r hr
    dsimp only
    split
    · exact h q hq
    · split
      · exact h p hp
      · exact h r hr
theorem sol_scale {A : Nat → Nat → Nat} {b v : Nat → Nat} {n p f : Nat} (hA : ∀ r, By (A r)) (hb : By b) (hv : By v) (hf : f < 256) (h0 : f ≠ 0) (hp : p < n) :
    Sol (fun r => if r = p then fun c => M f (A p c) else A r) (fun r => if r = p then M f (b p) else b r) n v ↔ Sol A b n v := by
  constructor
  · intro h r hr
    have := h r hr
    dsimp only at this
    by_cases e : r = p
    · subst e
      rw [if_pos rfl, if_pos rfl, rw_scale f n hf (hA r) hv] at this
      exact M_cancel hf (rw_lt (hA r) n) (hb r) h0 this
    · rw [if_neg e, if_neg e] at this
      exact this
  · intro h r hr
    dsimp only
    by_cases e : r = p
    · subst e
      rw [if_pos rfl, if_pos rfl, rw_scale f n hf (hA r) hv, h r hr]
    · rw [if_neg e, if_neg e]
      exact h r hr
theorem xor_twice (a b : Nat) : a ^^^ b ^^^ b = a := by rw [Nat.xor_assoc, Nat.xor_self, Nat.xor_zero]
theorem sol_add {A : Nat → Nat → Nat} {b v : Nat → Nat} {n p q f : Nat} (hA : ∀ r, By (A r)) (hv : By v) (hf : f < 256) (hp : p < n) (hne : p ≠ q) :
    Sol (fun r => if r = q then fun c => A q c ^^^ M f (A p c) else A r) (fun r => if r = q then b q ^^^ M f (b p) else b r) n v ↔ Sol A b n v := by
  constructor
  · intro h r hr
    have h1 := h r hr
    have h2 := h p hp
    dsimp only at h1 h2
    rw [if_neg hne, if_neg hne] at h2
    by_cases e : r = q
    · subst e
      rw [if_pos rfl, if_pos rfl, rw_add f n hf (hA p) hv, h2] at h1
      have h3 : rw_ (A r) v n ^^^ M f (b p) ^^^ M f (b p) = b r ^^^ M f (b p) ^^^ M f (b p) := by rw [h1]
      rwa [xor_twice, xor_twice] at h3
    · rw [if_neg e, if_neg e] at h1
      exact h1
  · intro h r hr
    dsimp only
    by_cases e : r = q
    · subst e
      rw [if_pos rfl, if_pos rfl, rw_add f n hf (hA p) hv, h p hp, h r hr]
    · rw [if_neg e, if_neg e]
      exact h r hr
/-- the same solutions of 0: the same kernel -/
theorem Ker.of {A B : Nat → Nat → Nat} {n : Nat} (hk : Ker A n) (h : ∀ v, By v → (Sol B (fun _ => 0) n v → Sol A (fun _ => 0) n v)) : Ker B n := fun v hv hs => hk v hv (h v hv hs)
theorem sm_front (f : Nat → Nat) : ∀ k, sm f (k + 1) = f 0 ^^^ sm (fun c => f (c + 1)) k
  | 0 => by show 0 ^^^ f 0 = f 0 ^^^ 0; rw [Nat.zero_xor, Nat.xor_zero]
  | k + 1 => by rw [sm, sm_front f k, sm, Nat.xor_assoc]
theorem gsum_sm : ∀ (i : Nat) (v : List Nat) (y : Nat), gsum i v y = sm (fun j => M (inv (y ^^^ (i + j))) (v.getD j 0)) v.length
  | _, [], _ => rfl
  | i, c :: v, y => by
    rw [gsum, List.length_cons, sm_front, gsum_sm (i + 1) v y]
    congr 1
    exact sm_congr fun j _ => by rw [show i + 1 + j = i + (j + 1) from by omega, List.getD_cons_succ]
/-- the equation of shard k -/
def row (n k c : Nat) : Nat := if k < n then (if c = k then 1 else 0) else inv ((128 + (k - n)) ^^^ c)
theorem inv_lt : ∀ {a : Nat}, a < 256 → inv a < 256 := fun {a} h => by
  by_cases h0 : a = 0
  · rw [h0, inv_zero]; omega
  · exact (inv_ok h h0).1
theorem row_lt {n k c : Nat} (hk : k < n + 128) (hc : c < 256) : row n k c < 256 := by
  unfold row
  split
  · split <;> omega
  · exact inv_lt (xor_lt8 (by omega) hc)
theorem row_sh (v : List Nat) (hb : Bs v) (k : Nat) : rw_ (row v.length k) (fun c => v.getD c 0) v.length = sh v k := by
  unfold rw_ sh
  by_cases h : k < v.length
  · rw [dif_pos h, sm_one (p := k) h]
    · unfold row
      rw [if_pos h, if_pos rfl]
      have e : v.getD k 0 = v[k] := by rw [List.getD_eq_getElem?_getD, List.getElem?_eq_getElem h]; rfl
      show M 1 (v.getD k 0) = _
      rw [e, one_M (hb _ (List.getElem_mem h))]
    · intro c _ hc
      unfold row
      rw [if_pos h, if_neg hc, zero_M]
  · rw [dif_neg h, gsum_sm]
    refine sm_congr fun c _ => ?_
    unfold row
    rw [if_neg h, Nat.zero_add]
theorem zs_mono (v : List Nat) (k : Nat) : ∀ d, zs v k ≤ zs v (k + d)
  | 0 => Nat.le_refl _
  | d + 1 => by
    have := zs_mono v k d
    rw [← Nat.add_assoc, zs]
    omega
theorem zs_many {v : List Nat} {K : Nat → Nat} {n : Nat} (hK : ∀ r, r + 1 < n → K r < K (r + 1)) (h0 : ∀ r, r < n → sh v (K r) = 0) : ∀ r, r < n → r + 1 ≤ zs v (K r + 1)
  | 0, h => by rw [zs, if_pos (h0 0 h)]; omega
  | r + 1, h => by
    have ih := zs_many hK h0 r (by omega)
    have hk := hK r h
    have := zs_mono v (K r + 1) (K (r + 1) - (K r + 1))
    rw [show K r + 1 + (K (r + 1) - (K r + 1)) = K (r + 1) from by omega] at this
    rw [zs, if_pos (h0 (r + 1) h)]
    omega
/-- the first n entries as a list -/
def lst (v : Nat → Nat) (n : Nat) : List Nat := (List.range n).map v
theorem lst_length (v : Nat → Nat) (n : Nat) : (lst v n).length = n := by simp [lst]
theorem lst_get (v : Nat → Nat) (n c : Nat) (h : c < n) : (lst v n).getD c 0 = v c := by
  rw [List.getD_eq_getElem?_getD, List.getElem?_eq_getElem (by rw [lst_length]; exact h)]
  simp [lst]
theorem lst_bs {v : Nat → Nat} (h : By v) (n : Nat) : Bs (lst v n) := fun c hc => by
  obtain ⟨j, _, rfl⟩ := List.mem_map.mp hc
  exact h j
theorem row_lst {v : Nat → Nat} (h : By v) (n k : Nat) : rw_ (row n k) v n = sh (lst v n) k := by
  have := row_sh (lst v n) (lst_bs h n) k
  rw [lst_length] at this
  rw [← this]
  exact sm_congr fun c hc => by show _ = M _ ((lst v n).getD c 0); rw [lst_get v n c hc]
/-- any n shards: nothing but 0 has all of them 0 -/
theorem ker_rows {K : Nat → Nat} {n : Nat} (hn : n ≤ 128) (hK : ∀ r, r + 1 < n → K r < K (r + 1)) (hl : ∀ r, r < n → K r < n + 128) : Ker (fun r => row n (K r)) n := by
  intro v hv hs c hc
  refine Classical.byContradiction fun h0 => ?_
  have h1 : ∀ r, r < n → sh (lst v n) (K r) = 0 := fun r hr => by rw [← row_lst hv]; exact hs r hr
  have h2 := zs_many hK h1 (n - 1) (by omega)
  have h3 := zs_lt (lst_bs hv n) (by rw [lst_length]; exact hn) ⟨v c, by rw [← lst_get v n c hc, List.getD_eq_getElem?_getD, List.getElem?_eq_getElem (by rw [lst_length]; exact hc)]; exact List.getElem_mem _, h0⟩ (m := K (n - 1) + 1) (by rw [lst_length]; have := hl (n - 1) (by omega); omega)
  rw [lst_length] at h3
  omega
end Fd
end Go.Proofs.YtoeohnknpbdgdaaDoor
