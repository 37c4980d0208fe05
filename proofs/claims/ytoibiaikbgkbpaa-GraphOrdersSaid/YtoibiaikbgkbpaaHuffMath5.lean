/-
  Codes (no Go in it): codes given out length by length are those of the sums over all that come ahead.
-/
import Derived.Test.YtoibiaikbgkbpaaHuffMath3
namespace Go.Proofs.Ytoibiaikbgkbpaa
namespace Hf

theorem sumIf_append (L M : List Nat) (g : Nat → Nat) (p : Nat → Bool) : sumIf (L ++ M) g p = sumIf L g p + sumIf M g p := by simp [sumIf]
theorem sumIf_succ (n : Nat) (g : Nat → Nat) (p : Nat → Bool) : sumIf (List.range (n + 1)) g p = sumIf (List.range n) g p + if p n then g n else 0 := by
  rw [List.range_succ, sumIf_append]
  simp [sumIf]
theorem sumIf_congr {L : List Nat} {g : Nat → Nat} {p q : Nat → Bool} (h : ∀ j ∈ L, p j = q j) : sumIf L g p = sumIf L g q := by
  unfold sumIf
  congr 1
  exact List.map_congr_left fun j hj => by rw [h j hj]
theorem sumIf_none {L : List Nat} {g : Nat → Nat} {p : Nat → Bool} (h : ∀ j ∈ L, p j = false) : sumIf L g p = 0 := by
  induction L with
  | nil => rfl
  | cons x L ih => rw [sumIf_cons, h x List.mem_cons_self, ih fun j hj => h j (List.mem_cons_of_mem _ hj)]; rfl
theorem sumIf_one {n i : Nat} {g : Nat → Nat} {p q : Nat → Bool} (hi : i < n) (h : ∀ j, j < n → j ≠ i → p j = q j) (hp : p i = false) (hq : q i = true) : sumIf (List.range n) g q = sumIf (List.range n) g p + g i := by
  induction n with
  | zero => omega
  | succ n ih =>
    rw [sumIf_succ, sumIf_succ]
    by_cases e : i = n
    · subst e
      rw [hp, hq, sumIf_congr (q := q) fun j hj => h j (by have := List.mem_range.1 hj; omega) (by have := List.mem_range.1 hj; omega)]
      simp
    · rw [ih (by omega) fun j hj => h j (by omega), h n (by omega) (fun e' => e e'.symm)]
      omega
/-- what the next code of b bits is, when k signs have been looked at -/
def nxt (l : List Nat) (b k : Nat) : Nat := sumIf (List.range l.length) (fun j => 2 ^ (b - l.getD j 0)) (fun j => decide (0 < l.getD j 0) && (decide (l.getD j 0 < b) || (decide (l.getD j 0 = b) && decide (j < k))))
theorem code_nxt (l : List Nat) (i : Nat) : code l i = nxt l (l.getD i 0) i := rfl
theorem nxt_zero (l : List Nat) (k : Nat) : nxt l 0 k = 0 := sumIf_none fun j _ => by simp; omega
theorem nxt_double (l : List Nat) (b : Nat) : nxt l (b + 1) 0 = nxt l b l.length * 2 := by
  unfold nxt
  rw [sumIf_congr (q := fun j => decide (0 < l.getD j 0) && (decide (l.getD j 0 < b) || (decide (l.getD j 0 = b) && decide (j < l.length)))) fun j hj => ?_]
  · refine (sumIf_mul fun j _ hj => ?_).symm
    rw [← Nat.pow_succ]
    congr 1
    simp at hj ⊢
    omega
  · have := List.mem_range.1 hj
    rw [Bool.eq_iff_iff]
    simp
    omega
theorem nxt_hit {l : List Nat} {b k : Nat} (hk : k < l.length) (hb : 0 < b) (h : l.getD k 0 = b) : nxt l b (k + 1) = nxt l b k + 1 := by
  have := sumIf_one (n := l.length) (i := k) (g := fun j => 2 ^ (b - l.getD j 0)) (p := fun j => decide (0 < l.getD j 0) && (decide (l.getD j 0 < b) || (decide (l.getD j 0 = b) && decide (j < k))))
    (q := fun j => decide (0 < l.getD j 0) && (decide (l.getD j 0 < b) || (decide (l.getD j 0 = b) && decide (j < k + 1)))) hk (fun j _ hj => by rw [Bool.eq_iff_iff]; simp; omega) (by rw [h]; simp) (by rw [h]; simp; omega)
  unfold nxt
  rw [this, h, Nat.sub_self]
theorem nxt_miss {l : List Nat} {b k : Nat} (h : l.getD k 0 ≠ b) : nxt l b (k + 1) = nxt l b k := by
  refine sumIf_congr fun j _ => ?_
  by_cases e : j = k
  · subst e
    simp at h ⊢
    simp [h]
  · rw [Bool.eq_iff_iff]
    simp
    omega
theorem nxt_le {l : List Nat} {b k : Nat} (hb : b ≤ 48) (h : ksum l ≤ 2 ^ 48) : nxt l b k ≤ 2 ^ b := by
  have h1 : nxt l b k * 2 ^ (48 - b) = sumIf (List.range l.length) (fun j => 2 ^ (48 - l.getD j 0)) (fun j => decide (0 < l.getD j 0) && (decide (l.getD j 0 < b) || (decide (l.getD j 0 = b) && decide (j < k)))) :=
    sumIf_mul fun j _ hj => by
      rw [← Nat.pow_add]
      congr 1
      simp at hj ⊢
      omega
  have h2 : sumIf (List.range l.length) (fun j => 2 ^ (48 - l.getD j 0)) (fun j => decide (0 < l.getD j 0) && (decide (l.getD j 0 < b) || (decide (l.getD j 0 = b) && decide (j < k)))) ≤ ksum l :=
    sumIf_le fun j _ hj => by
      simp at hj ⊢
      omega
  have h3 : nxt l b k * 2 ^ (48 - b) ≤ 2 ^ b * 2 ^ (48 - b) := by
    rw [← Nat.pow_add, show b + (48 - b) = 48 from by omega]
    omega
  exact Nat.le_of_mul_le_mul_right h3 (Nat.two_pow_pos _)
theorem nxt_bound {l : List Nat} {b k : Nat} (hb : b ≤ 48) (h : ksum l ≤ 2 ^ 48) : nxt l b k ≤ 281474976710656 :=
  Nat.le_trans (nxt_le hb h) (Nat.le_trans (Nat.pow_le_pow_right (by omega) hb) (by decide))
/-- the codes that are given when those below b bits are, and of those of b bits the ones of the first k signs -/
def given (l : List Nat) (b k : Nat) : List Int := (List.range l.length).map fun i => if 0 < l.getD i 0 ∧ (l.getD i 0 < b ∨ (l.getD i 0 = b ∧ i < k)) then (code l i : Int) else 0
def codes (l : List Nat) : List Int := (List.range l.length).map fun i => (code l i : Int)
theorem code_none {l : List Nat} {i : Nat} (h : l.getD i 0 = 0) : code l i = 0 := by
  rw [code_nxt, h]
  exact nxt_zero _ _
theorem given_start (l : List Nat) : given l 1 0 = List.replicate l.length 0 := by
  refine List.ext_getElem (by simp [given]) fun i h1 h2 => ?_
  simp [given]
  omega
theorem given_next (l : List Nat) (b : Nat) : given l b l.length = given l (b + 1) 0 := by
  refine List.map_congr_left fun i hi => ?_
  have := List.mem_range.1 hi
  have e : (0 < l.getD i 0 ∧ (l.getD i 0 < b ∨ (l.getD i 0 = b ∧ i < l.length))) ↔ (0 < l.getD i 0 ∧ (l.getD i 0 < b + 1 ∨ (l.getD i 0 = b + 1 ∧ i < 0))) := by omega
  by_cases h : 0 < l.getD i 0 ∧ (l.getD i 0 < b ∨ (l.getD i 0 = b ∧ i < l.length))
  · rw [if_pos h, if_pos (e.1 h)]
  · rw [if_neg h, if_neg fun h' => h (e.2 h')]
theorem given_miss {l : List Nat} {b k : Nat} (h : l.getD k 0 ≠ b) : given l b (k + 1) = given l b k := by
  refine List.map_congr_left fun i hi => ?_
  have e : (0 < l.getD i 0 ∧ (l.getD i 0 < b ∨ (l.getD i 0 = b ∧ i < k + 1))) ↔ (0 < l.getD i 0 ∧ (l.getD i 0 < b ∨ (l.getD i 0 = b ∧ i < k))) := by
    by_cases e : i = k
    · subst e; omega
    · omega
  by_cases h : 0 < l.getD i 0 ∧ (l.getD i 0 < b ∨ (l.getD i 0 = b ∧ i < k + 1))
  · rw [if_pos h, if_pos (e.1 h)]
  · rw [if_neg h, if_neg fun h' => h (e.2 h')]
theorem given_hit {l : List Nat} {b k : Nat} (hb : 0 < b) (h : l.getD k 0 = b) : given l b (k + 1) = (given l b k).set k (nxt l b k : Int) := by
  refine List.ext_getElem (by simp [given]) fun i h1 h2 => ?_
  rw [List.getElem_set]
  by_cases e : k = i
  · subst e
    rw [if_pos rfl]
    simp only [given, List.getElem_map, List.getElem_range]
    rw [if_pos (by omega), code_nxt, h]
  · rw [if_neg e]
    simp only [given, List.getElem_map, List.getElem_range]
    have e : (0 < l.getD i 0 ∧ (l.getD i 0 < b ∨ (l.getD i 0 = b ∧ i < k + 1))) ↔ (0 < l.getD i 0 ∧ (l.getD i 0 < b ∨ (l.getD i 0 = b ∧ i < k))) := by omega
    by_cases h : 0 < l.getD i 0 ∧ (l.getD i 0 < b ∨ (l.getD i 0 = b ∧ i < k + 1))
    · rw [if_pos h, if_pos (e.1 h)]
    · rw [if_neg h, if_neg fun h' => h (e.2 h')]
theorem getD_le {l : List Nat} {B : Nat} (h : ∀ n ∈ l, n ≤ B) (i : Nat) : l.getD i 0 ≤ B := by
  rw [List.getD_eq_getElem?_getD]
  cases e : l[i]? with
  | none => exact Nat.zero_le _
  | some x => exact h x (List.mem_of_getElem? e)
theorem given_end {l : List Nat} (h : ∀ n ∈ l, n ≤ 48) : given l 49 0 = codes l := by
  refine List.map_congr_left fun i hi => ?_
  have h48 := getD_le h i
  by_cases h0 : 0 < l.getD i 0
  · rw [if_pos (by omega)]
  · rw [if_neg (by omega), code_none (by omega)]
    rfl
theorem given_length (l : List Nat) (b k : Nat) : (given l b k).length = l.length := by simp [given]
theorem codes_length (l : List Nat) : (codes l).length = l.length := by simp [codes]
/-- the Kraft sum of the first k -/
def kto (l : List Nat) (k : Nat) : Nat := sumIf (List.range k) (fun j => 2 ^ (48 - l.getD j 0)) (fun j => decide (0 < l.getD j 0))
theorem kto_all (l : List Nat) : kto l l.length = ksum l := rfl
theorem kto_succ (l : List Nat) (k : Nat) : kto l (k + 1) = kto l k + if 0 < l.getD k 0 then 2 ^ (48 - l.getD k 0) else 0 := by
  unfold kto
  rw [sumIf_succ]
  simp
theorem kto_le (l : List Nat) (k : Nat) : kto l k ≤ k * 281474976710656 := by
  induction k with
  | zero => simp [kto, sumIf]
  | succ k ih =>
    have h1 : 2 ^ (48 - l.getD k 0) ≤ 281474976710656 := Nat.le_trans (Nat.pow_le_pow_right (by omega) (Nat.sub_le _ _)) (by decide : 2 ^ 48 ≤ 281474976710656)
    have h2 : (if 0 < l.getD k 0 then 2 ^ (48 - l.getD k 0) else 0) ≤ 281474976710656 := by
      by_cases h : 0 < l.getD k 0
      · rw [if_pos h]; exact h1
      · rw [if_neg h]; exact Nat.zero_le _
    rw [kto_succ, Nat.succ_mul]
    exact Nat.add_le_add ih h2
/-- the code of i, of the first k looked at -/
def cto (l : List Nat) (i k : Nat) : Nat := sumIf (List.range k) (fun j => 2 ^ (l.getD i 0 - l.getD j 0)) (ahead l i)
theorem cto_all (l : List Nat) (i : Nat) : cto l i l.length = code l i := rfl
theorem cto_hit {l : List Nat} {i k : Nat} (h : ahead l i k = true) : cto l i (k + 1) = cto l i k + 2 ^ (l.getD i 0 - l.getD k 0) := by
  unfold cto
  rw [sumIf_succ, if_pos h]
theorem cto_miss {l : List Nat} {i k : Nat} (h : ahead l i k = false) : cto l i (k + 1) = cto l i k := by
  unfold cto
  rw [sumIf_succ, h]
  rfl
theorem cto_le {l : List Nat} {i k : Nat} (hk : k ≤ l.length) (h48 : ∀ n ∈ l, n ≤ 48) (h : ksum l ≤ 2 ^ 48) : cto l i k ≤ 281474976710656 := by
  have h1 : cto l i k ≤ code l i := by
    obtain ⟨d, hd⟩ : ∃ d, l.length = k + d := ⟨l.length - k, by omega⟩
    unfold cto code
    rw [hd, List.range_add, sumIf_append]
    omega
  rw [code_nxt] at h1
  exact Nat.le_trans h1 (nxt_bound (getD_le h48 i) h)
/-- codes of the first i, and the part of the i-th's out of the first k -/
def part (l : List Nat) (i k : Nat) : List Int := (List.range l.length).map fun j => if j < i then (code l j : Int) else if j = i then (cto l i k : Int) else 0
theorem part_length (l : List Nat) (i k : Nat) : (part l i k).length = l.length := by simp [part]
theorem part_start (l : List Nat) : part l 0 0 = List.replicate l.length 0 := by
  refine List.ext_getElem (by simp [part]) fun i h1 h2 => ?_
  simp [part, cto, sumIf]
theorem part_next (l : List Nat) (i : Nat) : part l i l.length = part l (i + 1) 0 := by
  refine List.map_congr_left fun j hj => ?_
  by_cases h1 : j < i
  · rw [if_pos h1, if_pos (by omega)]
  · rw [if_neg h1]
    by_cases h2 : j = i
    · subst h2
      rw [if_pos rfl, if_pos (by omega), cto_all]
    · rw [if_neg h2, if_neg (by omega)]
      split
      · simp [cto, sumIf]
      · rfl
theorem part_end (l : List Nat) : part l l.length 0 = codes l := by
  refine List.map_congr_left fun j hj => ?_
  rw [if_pos (List.mem_range.1 hj)]
theorem part_miss {l : List Nat} {i k : Nat} (h : ahead l i k = false) : part l i (k + 1) = part l i k := by
  unfold part
  rw [cto_miss h]
theorem part_get {l : List Nat} {i k : Nat} (hi : i < l.length) : (part l i k)[i]? = some (cto l i k : Int) := by
  simp [part, hi]
theorem part_hit {l : List Nat} {i k : Nat} (h : ahead l i k = true) : part l i (k + 1) = (part l i k).set i ((cto l i k : Int) + (2 ^ (l.getD i 0 - l.getD k 0) : Nat)) := by
  refine List.ext_getElem (by simp [part]) fun j h1 h2 => ?_
  rw [List.getElem_set]
  simp only [part, List.getElem_map, List.getElem_range]
  by_cases e : i = j
  · subst e
    rw [if_neg (by omega), if_pos rfl, if_pos rfl, cto_hit h]
    omega
  · rw [if_neg e]
    by_cases h3 : j < i
    · rw [if_pos h3, if_pos h3]
    · rw [if_neg h3, if_neg h3, if_neg (fun e' => e e'.symm), if_neg (fun e' => e e'.symm)]
/-- is it a list of numbers that signs may have? -/
def sgn (most : Int) (l : List Int) : Bool := decide (1 ≤ l.length ∧ l.length ≤ 256 ∧ ∀ n ∈ l, 0 ≤ n ∧ n ≤ most)
def up (l : List Nat) : List Int := l.map fun n : Nat => (n : Int)
theorem up_length (l : List Nat) : (up l).length = l.length := by simp [up]
theorem up_get (l : List Nat) (j : Nat) (hj : j < (up l).length) : (up l)[j] = ((l.getD j 0 : Nat) : Int) := by
  have : j < l.length := by simpa [up] using hj
  simp [up, List.getD_eq_getElem?_getD, List.getElem?_eq_getElem this]
theorem sgn_up {most : Nat} {l : List Int} (h : sgn most l = true) : ∃ L : List Nat, l = up L ∧ 1 ≤ L.length ∧ L.length ≤ 256 ∧ ∀ n ∈ L, n ≤ most := by
  obtain ⟨h1, h2, h3⟩ := of_decide_eq_true h
  refine ⟨l.map Int.toNat, ?_, by simpa using h1, by simpa using h2, fun n hn => ?_⟩
  · unfold up
    rw [List.map_map]
    conv => lhs; rw [← List.map_id l]
    refine List.map_congr_left fun n hn => ?_
    have := h3 n hn
    show n = ((n.toNat : Nat) : Int)
    omega
  · obtain ⟨m, hm, rfl⟩ := List.mem_map.1 hn
    have := h3 m hm
    omega
end Hf
end Go.Proofs.Ytoibiaikbgkbpaa
