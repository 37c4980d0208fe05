/-
  Plain facts (no Go in here): the powers of 2 are all numbers but 0, each once; polynomials over the field of 256: a polynomial that isn't 0 has no more roots than its degree.
-/
import Derived.Test.YtoeohnknpbdgdaaDoorFdMath
namespace Go.Proofs.YtoeohnknpbdgdaaDoor
namespace Fd
open Rl (xor4)

/-- how many of the first k powers of 2 are a -/
def cyc (a : Nat) : Nat → Nat
  | 0 => 0
  | k + 1 => cyc a k + if P 2 k = a then 1 else 0
/-- the same, the powers one by one -/
def cyr (a : Nat) : Nat → Nat → Nat → Nat
  | 0, _, n => n
  | k + 1, x, n => cyr a k (mx x) (if x = a then n + 1 else n)
theorem cyr_cyc (a : Nat) : ∀ k j, cyr a k (P 2 j) (cyc a j) = cyc a (j + k)
  | 0, _ => rfl
  | k + 1, j => by
    have h : P 2 (j + 1) = mx (P 2 j) := M_two (P_lt (by omega) j)
    rw [cyr, ← h, show j + (k + 1) = j + 1 + k from by omega, ← cyr_cyc a k (j + 1), cyc]
    split
    · rfl
    · rfl
/-- GALOIS -/
theorem cyc_all : ∀ a, a < 256 → cyc a 255 = if a = 0 then 0 else 1 := by
  have h : ∀ a, a < 256 → cyr a 255 1 0 = if a = 0 then 0 else 1 := by decide +kernel
  intro a ha
  rw [← h a ha]
  have := cyr_cyc a 255 0
  rw [Nat.zero_add] at this
  exact this.symm

/-- P24: the value of a polynomial, its lowest number first -/
def hv : List Nat → Nat → Nat
  | [], _ => 0
  | c :: p, x => c ^^^ M x (hv p x)
/-- numbers below 256 -/
def Bs (p : List Nat) : Prop := ∀ c ∈ p, c < 256
theorem Bs.tail {c : Nat} {p : List Nat} (h : Bs (c :: p)) : Bs p := fun d hd => h d (List.mem_cons_of_mem _ hd)
theorem Bs.head {c : Nat} {p : List Nat} (h : Bs (c :: p)) : c < 256 := h c (List.mem_cons_self ..)
theorem hv_lt : ∀ {p : List Nat}, Bs p → ∀ {x}, x < 256 → hv p x < 256
  | [], _, _, _ => by show (0 : Nat) < _; omega
  | _ :: _, h, _, hx => Nat.xor_lt_two_pow (n := 8) h.head (M_lt hx _)
/-- the same, with the powers one by one -/
def av : List Nat → Nat → Nat → Nat → Nat
  | [], _, _, o => o
  | c :: p, x, u, o => av p x (M u x) (o ^^^ M c u)
theorem av_hv : ∀ {p : List Nat}, Bs p → ∀ {x u}, x < 256 → u < 256 → ∀ o, av p x u o = o ^^^ M u (hv p x)
  | [], _, _, u, _, _, o => by rw [av, hv, M_zero, Nat.xor_zero]
  | c :: p, h, x, u, hx, hu, o => by
    rw [av, av_hv h.tail hx (M_lt hu x), hv, M_xor, M_comm h.head hu, M_assoc hu hx (hv_lt h.tail hx), Nat.xor_assoc]
theorem av_one {p : List Nat} (h : Bs p) {x : Nat} (hx : x < 256) : av p x 1 0 = hv p x := by
  rw [av_hv h hx (by omega), one_M (hv_lt h hx), Nat.zero_xor]
/-- sums of polynomials have sums of values -/
theorem hv_xor : ∀ (p q : List Nat), p.length = q.length → ∀ x, hv (List.zipWith (· ^^^ ·) p q) x = hv p x ^^^ hv q x
  | [], [], _, _ => (Nat.xor_self 0).symm
  | c :: p, d :: q, h, x => by
    have h' : p.length = q.length := by simpa using h
    rw [List.zipWith_cons_cons, hv, hv, hv, hv_xor p q h' x, M_xor, xor4]
  | [], _ :: _, h, _ => by simp at h
  | _ :: _, [], h, _ => by simp at h
theorem hv_zero : ∀ {p : List Nat}, (∀ c ∈ p, c = 0) → ∀ x, hv p x = 0
  | [], _, _ => rfl
  | c :: p, h, x => by
    rw [hv, hv_zero (fun d hd => h d (List.mem_cons_of_mem _ hd)) x, M_zero, h c (List.mem_cons_self ..)]; rfl
theorem hv_app_zero : ∀ (p q : List Nat), (∀ c ∈ q, c = 0) → ∀ x, hv (p ++ q) x = hv p x
  | [], q, h, x => hv_zero h x
  | c :: p, q, h, x => by rw [List.cons_append, hv, hv, hv_app_zero p q h x]

/-- divided by x - r -/
def dv : List Nat → Nat → List Nat
  | [], _ => []
  | [_], _ => []
  | _ :: d :: p, r => hv (d :: p) r :: dv (d :: p) r
theorem dv_len : ∀ (p : List Nat) (r : Nat), (dv p r).length = p.length - 1
  | [], _ => rfl
  | [_], _ => rfl
  | _ :: d :: p, r => by rw [dv, List.length_cons, dv_len (d :: p) r]; simp
theorem dv_bs : ∀ {p : List Nat}, Bs p → ∀ {r}, r < 256 → Bs (dv p r)
  | [], h, _, _ => h
  | [_], _, _, _ => fun _ hc => by cases hc
  | _ :: d :: p, h, r, hr => by
    intro c hc
    rw [dv, List.mem_cons] at hc
    rcases hc with rfl | hc
    · exact hv_lt h.tail hr
    · exact dv_bs h.tail hr c hc
theorem dv_spec : ∀ {p : List Nat}, Bs p → ∀ {r x}, r < 256 → x < 256 → hv p x = hv p r ^^^ M (x ^^^ r) (hv (dv p r) x)
  | [], _, _, _, _, _ => by show 0 = 0 ^^^ M _ 0; rw [M_zero]; rfl
  | [c], _, r, x, _, _ => by show c ^^^ M x 0 = c ^^^ M r 0 ^^^ M _ 0; rw [M_zero, M_zero, M_zero]; simp
  | c :: d :: p, h, r, x, hr, hx => by
    have ih := dv_spec h.tail hr hx
    have hxr : x ^^^ r < 256 := Nat.xor_lt_two_pow (n := 8) hx hr
    have hA := hv_lt h.tail hr
    have hQ := hv_lt (dv_bs h.tail hr) hx
    rw [hv, hv.eq_2 r c, dv, hv.eq_2 x (hv (d :: p) r), ih, M_xor, M_xor, ← M_assoc hx hxr hQ, ← M_assoc hxr hx hQ, M_comm hx hxr, xor_M x r (hv (d :: p) r)]
    rw [Nat.xor_assoc, ← Nat.xor_assoc (M r _), ← Nat.xor_assoc (M r _), Nat.xor_comm (M r _), Nat.xor_assoc (M x _) (M r _), Nat.xor_self, Nat.xor_zero]
theorem dv_zero : ∀ {p : List Nat} {r : Nat}, (∀ c ∈ dv p r, c = 0) → hv p r = 0 → ∀ c ∈ p, c = 0
  | [], _, _, _, c, hc => by cases hc
  | [e], r, _, h, c, hc => by
    have h1 : e ^^^ M r 0 = 0 := h
    rw [M_zero, Nat.xor_zero] at h1
    rw [List.mem_singleton.mp hc, h1]
  | e :: d :: p, r, hz, h, c, hc => by
    rw [dv] at hz
    have h1 : hv (d :: p) r = 0 := hz _ (List.mem_cons_self ..)
    have h2 := dv_zero (p := d :: p) (r := r) (fun c hc => hz c (List.mem_cons_of_mem _ hc)) h1
    rw [hv, h1, M_zero, Nat.xor_zero] at h
    rcases List.mem_cons.mp hc with rfl | hc
    · exact h
    · exact h2 c hc

/-- how many of the numbers below k are roots -/
def rts (p : List Nat) : Nat → Nat
  | 0 => 0
  | k + 1 => rts p k + if hv p k = 0 then 1 else 0
theorem rts_all {p : List Nat} (h : ∀ c ∈ p, c = 0) : ∀ k, rts p k = k
  | 0 => rfl
  | k + 1 => by rw [rts, rts_all h k, if_pos (hv_zero h k)]
theorem rts_pos {p : List Nat} : ∀ {k}, 0 < rts p k → ∃ r, r < k ∧ hv p r = 0
  | 0, h => by cases h
  | k + 1, h => by
    by_cases hk : hv p k = 0
    · exact ⟨k, by omega, hk⟩
    · rw [rts, if_neg hk] at h
      obtain ⟨r, h1, h2⟩ := rts_pos (k := k) (by omega)
      exact ⟨r, by omega, h2⟩
theorem rts_step {p q : List Nat} {r n : Nat} (h : ∀ x, x < n → hv p x = 0 → x = r ∨ hv q x = 0) : ∀ k, k ≤ n → rts p k ≤ rts q k + if r < k then 1 else 0
  | 0, _ => by show (0 : Nat) ≤ _; omega
  | k + 1, hk => by
    have ih := rts_step h k (by omega)
    have h1 := h k (by omega)
    rw [rts, rts]
    by_cases hp : hv p k = 0
    · rw [if_pos hp]
      rcases h1 hp with hr | hq
      · subst hr
        rw [if_neg (by omega)] at ih
        rw [if_pos (by omega : k < k + 1)]
        omega
      · rw [if_pos hq]
        split at ih <;> split <;> omega
    · rw [if_neg hp]
      by_cases hr : r < k
      · rw [if_pos hr] at ih
        rw [if_pos (by omega : r < k + 1)]
        omega
      · rw [if_neg hr] at ih
        omega
/-- LAGRANGE -/
theorem rts_le : ∀ n (p : List Nat), Bs p → p.length ≤ n + 1 → (∃ c ∈ p, c ≠ 0) → rts p 256 ≤ n
  | n, p, hb, hl, hn => by
    by_cases h0 : rts p 256 = 0
    · omega
    obtain ⟨r, hr, hpr⟩ := rts_pos (p := p) (k := 256) (by omega)
    have hqn : ∃ c ∈ dv p r, c ≠ 0 := Classical.byContradiction fun hq => by
      obtain ⟨c, hc, h1⟩ := hn
      exact h1 (dv_zero (fun c hc => Classical.byContradiction fun h2 => hq ⟨c, hc, h2⟩) hpr c hc)
    have hql := dv_len p r
    have hqb := dv_bs hb hr
    have hs : ∀ x, x < 256 → hv p x = 0 → x = r ∨ hv (dv p r) x = 0 := by
      intro x hx h
      have h1 := dv_spec hb hr hx
      rw [h, hpr, Nat.zero_xor] at h1
      rcases (M_eq_zero (Nat.xor_lt_two_pow (n := 8) hx hr) (hv_lt hqb hx)).mp h1.symm with h2 | h2
      · left
        have : x ^^^ r ^^^ r = 0 ^^^ r := by rw [h2]
        rwa [Nat.xor_assoc, Nat.xor_self, Nat.xor_zero, Nat.zero_xor] at this
      · exact .inr h2
    have h3 := rts_step hs 256 (Nat.le_refl _)
    rw [if_pos hr] at h3
    match n, hl with
    | 0, hl =>
      obtain ⟨c, hc, _⟩ := hqn
      have := List.length_pos_of_mem hc
      omega
    | n + 1, hl =>
      have h4 := rts_le n (dv p r) hqb (by omega) hqn
      omega
theorem rts_app (p q : List Nat) (h : ∀ c ∈ q, c = 0) : ∀ k, rts (p ++ q) k = rts p k
  | 0 => rfl
  | k + 1 => by rw [rts, rts, rts_app p q h k, hv_app_zero p q h]
/-- the same of a degree: the last place that isn't 0 -/
theorem rts_degree {p : List Nat} (hb : Bs p) {d : Nat} (hd : d < p.length) (h1 : p[d] ≠ 0) (h2 : ∀ i (h : i < p.length), d < i → p[i] = 0) : rts p 256 ≤ d := by
  have e : p = p.take (d + 1) ++ p.drop (d + 1) := (List.take_append_drop _ _).symm
  have hz : ∀ c ∈ p.drop (d + 1), c = 0 := by
    intro c hc
    obtain ⟨i, hi, rfl⟩ := List.getElem_of_mem hc
    rw [List.getElem_drop]
    exact h2 _ _ (by omega)
  rw [e, rts_app _ _ hz]
  refine rts_le d _ (fun c hc => hb c (List.mem_of_mem_take hc)) ?_ ⟨p[d], ?_, h1⟩
  · rw [List.length_take]; omega
  · exact List.mem_take_iff_getElem.mpr ⟨d, by omega, rfl⟩
end Fd
end Go.Proofs.YtoeohnknpbdgdaaDoor
