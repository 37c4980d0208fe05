/-
  Codes (no Go in it): KRAFT, McMILLAN: lengths whose sum is no more than a whole have codes, none the beginning of another.
-/
import Derived.WalkKit
namespace Go.Proofs.Ytoibiaikbgkbpaa
namespace Hf

def sumIf (L : List Nat) (g : Nat → Nat) (p : Nat → Bool) : Nat := (L.map fun j => if p j then g j else 0).sum
theorem sumIf_cons (x : Nat) (L : List Nat) (g : Nat → Nat) (p : Nat → Bool) : sumIf (x :: L) g p = (if p x then g x else 0) + sumIf L g p := by simp [sumIf]
theorem sumIf_le {L : List Nat} {g : Nat → Nat} {p q : Nat → Bool} (h : ∀ j ∈ L, p j = true → q j = true) : sumIf L g p ≤ sumIf L g q := by
  induction L with
  | nil => exact Nat.le_refl _
  | cons x L ih =>
    have h1 := ih fun j hj => h j (List.mem_cons_of_mem _ hj)
    have h2 := h x List.mem_cons_self
    rw [sumIf_cons, sumIf_cons]
    by_cases hp : p x = true
    · rw [if_pos hp, if_pos (h2 hp)]
      omega
    · rw [if_neg hp]
      omega
theorem sumIf_more {L : List Nat} {g : Nat → Nat} {p q : Nat → Bool} {i : Nat} (hi : i ∈ L) (h : ∀ j ∈ L, p j = true → q j = true) (hp : p i = false) (hq : q i = true) : sumIf L g p + g i ≤ sumIf L g q := by
  induction L with
  | nil => exact absurd hi (by simp)
  | cons x L ih =>
    rw [sumIf_cons, sumIf_cons]
    by_cases hx : x = i
    · subst hx
      have h1 := sumIf_le (g := g) fun j hj => h j (List.mem_cons_of_mem _ hj)
      rw [if_neg (by rw [hp]; simp), if_pos hq]
      omega
    · have h1 := ih (List.mem_of_ne_of_mem (Ne.symm hx) hi) fun j hj => h j (List.mem_cons_of_mem _ hj)
      have h2 := h x List.mem_cons_self
      by_cases hp : p x = true
      · rw [if_pos hp, if_pos (h2 hp)]
        omega
      · rw [if_neg hp]
        omega
theorem sumIf_mul {L : List Nat} {g g' : Nat → Nat} {p : Nat → Bool} {c : Nat} (h : ∀ j ∈ L, p j = true → g j * c = g' j) : sumIf L g p * c = sumIf L g' p := by
  induction L with
  | nil => simp [sumIf]
  | cons x L ih =>
    rw [sumIf_cons, sumIf_cons, Nat.add_mul, ih fun j hj => h j (List.mem_cons_of_mem _ hj)]
    congr 1
    by_cases hp : p x = true
    · rw [if_pos hp, if_pos hp, h x List.mem_cons_self hp]
    · rw [if_neg hp, if_neg hp, Nat.zero_mul]

/-- does j's code come ahead of i's? -/
def ahead (l : List Nat) (i j : Nat) : Bool := decide (0 < l.getD j 0) && (decide (l.getD j 0 < l.getD i 0) || (decide (l.getD j 0 = l.getD i 0) && decide (j < i)))
def ksum (l : List Nat) : Nat := sumIf (List.range l.length) (fun j => 2 ^ (48 - l.getD j 0)) (fun j => decide (0 < l.getD j 0))
def kof (l : List Nat) (i : Nat) : Nat := sumIf (List.range l.length) (fun j => 2 ^ (48 - l.getD j 0)) (ahead l i)
def code (l : List Nat) (i : Nat) : Nat := sumIf (List.range l.length) (fun j => 2 ^ (l.getD i 0 - l.getD j 0)) (ahead l i)
theorem ahead_le {l : List Nat} {i j : Nat} (h : ahead l i j = true) : 0 < l.getD j 0 ∧ l.getD j 0 ≤ l.getD i 0 := by
  simp [ahead] at h ⊢
  omega
theorem code_kof {l : List Nat} {i : Nat} (h : l.getD i 0 ≤ 48) : code l i * 2 ^ (48 - l.getD i 0) = kof l i := by
  refine sumIf_mul fun j _ hj => ?_
  have := ahead_le hj
  rw [← Nat.pow_add]
  congr 1
  omega
theorem kof_sum {l : List Nat} {i : Nat} (hi : i < l.length) (h0 : 0 < l.getD i 0) : kof l i + 2 ^ (48 - l.getD i 0) ≤ ksum l := by
  refine sumIf_more (g := fun j => 2 ^ (48 - l.getD j 0)) (List.mem_range.2 hi) (fun j _ hj => by simpa using (ahead_le hj).1) ?_ (by simpa using h0)
  simp [ahead]
theorem kof_ahead {l : List Nat} {i j : Nat} (hi : i < l.length) (h : ahead l j i = true) : kof l i + 2 ^ (48 - l.getD i 0) ≤ kof l j := by
  refine sumIf_more (g := fun j => 2 ^ (48 - l.getD j 0)) (List.mem_range.2 hi) (fun k _ hk => ?_) ?_ h
  · simp [ahead] at h hk ⊢
    omega
  · simp [ahead]
theorem ahead_or {l : List Nat} {i j : Nat} (hij : i ≠ j) (hi : 0 < l.getD i 0) (hj : 0 < l.getD j 0) : ahead l j i = true ∨ ahead l i j = true := by
  simp [ahead] at hi hj ⊢
  omega
/-- a code has no more bits than its length -/
theorem code_lt {l : List Nat} {i : Nat} (hi : i < l.length) (h0 : 0 < l.getD i 0) (h48 : l.getD i 0 ≤ 48) (hk : ksum l ≤ 2 ^ 48) : code l i < 2 ^ l.getD i 0 := by
  have h1 := kof_sum hi h0
  rw [← code_kof h48] at h1
  have h2 : (code l i + 1) * 2 ^ (48 - l.getD i 0) ≤ 2 ^ l.getD i 0 * 2 ^ (48 - l.getD i 0) := by
    rw [← Nat.pow_add, show l.getD i 0 + (48 - l.getD i 0) = 48 from by omega, Nat.add_mul, Nat.one_mul]
    omega
  exact Nat.le_of_mul_le_mul_right h2 (Nat.two_pow_pos _)
/-- no code is the beginning of another -/
theorem code_free {l : List Nat} {i j : Nat} (hi : i < l.length) (hj : j < l.length) (hij : i ≠ j) (h0 : 0 < l.getD i 0) (hle : l.getD i 0 ≤ l.getD j 0) (h48 : l.getD j 0 ≤ 48) :
    code l j / 2 ^ (l.getD j 0 - l.getD i 0) ≠ code l i := by
  intro e
  have ki := code_kof (l := l) (i := i) (by omega)
  have kj := code_kof (l := l) (i := j) h48
  have hd := Nat.div_add_mod (code l j) (2 ^ (l.getD j 0 - l.getD i 0))
  have hm := Nat.mod_lt (code l j) (Nat.two_pow_pos (l.getD j 0 - l.getD i 0))
  rw [e] at hd
  have hs : 2 ^ (48 - l.getD i 0) = 2 ^ (l.getD j 0 - l.getD i 0) * 2 ^ (48 - l.getD j 0) := by
    rw [← Nat.pow_add]
    congr 1
    omega
  have hP := Nat.two_pow_pos (48 - l.getD j 0)
  have h1 : kof l i ≤ kof l j := by
    rw [← ki, ← kj, hs, ← Nat.mul_assoc]
    refine Nat.mul_le_mul_right _ ?_
    rw [Nat.mul_comm]
    omega
  have h2 : kof l j < kof l i + 2 ^ (48 - l.getD i 0) := by
    rw [← ki, ← kj, hs, ← Nat.mul_assoc, ← Nat.add_mul]
    refine Nat.mul_lt_mul_of_pos_right ?_ hP
    rw [Nat.mul_comm]
    omega
  rcases ahead_or hij h0 (by omega) with h | h
  · have := kof_ahead hi h
    omega
  · have h3 := kof_ahead hj h
    omega
end Hf
end Go.Proofs.Ytoibiaikbgkbpaa
