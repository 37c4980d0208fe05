/-
  Plain facts (no Go in here): what P59 and P60 promise.
-/
import Derived.Test.YtoibiaikbgkbpaaGrMath
namespace Go.Proofs.Ytoibiaikbgkbpaa
namespace Gr

theorem nodup_le {A B : List Int} (hA : A.Nodup) (h : ∀ x ∈ A, x ∈ B) : A.length ≤ B.length := by
  induction A generalizing B with
  | nil => exact Nat.zero_le _
  | cons a A ih =>
    rw [List.nodup_cons] at hA
    have hb : a ∈ B := h a (by simp)
    have h2 : ∀ x ∈ A, x ∈ B.erase a := fun x hx => (List.mem_erase_of_ne (fun e : x = a => hA.1 (by rw [← e]; exact hx))).2 (h x (List.mem_cons_of_mem _ hx))
    have := ih hA.2 h2
    rw [List.length_erase_of_mem hb] at this
    have := List.length_pos_of_mem hb
    rw [List.length_cons]
    omega

/-- 0 to n - 1 -/
def upto (n : Nat) : List Int := (List.range n).map fun (i : Nat) => (i : Int)
theorem upto_length (n : Nat) : (upto n).length = n := by simp [upto]
theorem mem_upto {n : Nat} {x : Int} : x ∈ upto n ↔ (0 ≤ x ∧ x < n) := by
  unfold upto
  rw [List.mem_map]
  constructor
  · rintro ⟨i, h, rfl⟩
    rw [List.mem_range] at h
    omega
  · intro h
    exact ⟨x.toNat, List.mem_range.2 (by omega), by omega⟩

/-! ### reached -/

/-- a set as a row of bools that has the roots, and with each thing its kids -/
def ClB (K : List (List Int)) (R : List Int) (s : List Bool) : Prop := (∀ k ∈ R, s.getD k.toNat false = true) ∧ ∀ i, i < K.length → s.getD i false = true → ∀ k ∈ kd K i, s.getD k.toNat false = true

theorem kd_past {K : List (List Int)} {i : Nat} (h : K.length ≤ i) : kd K i = [] := by
  unfold kd
  rw [List.getD_eq_getElem?_getD, List.getElem?_eq_none h]
  rfl

theorem clB_cl {K : List (List Int)} {R : List Int} {s : List Bool} (h : ClB K R s) : Cl K R (fun i => s.getD i false = true) :=
  ⟨h.1, fun i hi k hk => by
    by_cases e : i < K.length
    · exact h.2 i e hi k hk
    · rw [kd_past (by omega)] at hk; exact absurd hk (by simp)⟩

theorem rch_getD (K : List (List Int)) (R : List Int) {i : Nat} (h : i < K.length) : (rch K R).getD i false = rj K K.length (rt R) i := by
  rw [List.getD_eq_getElem?_getD, rch_at K R h]
  rfl

theorem rch_iff {K : List (List Int)} {R : List Int} (h : rErr K R = 0) {i : Nat} (hi : i < K.length) : (rch K R).getD i false = true ↔ Rc K R i := by
  obtain ⟨h1, _, h3⟩ := rErr_ok h
  rw [rch_getD K R hi]
  exact rj_rc h1 h3 hi

/-- TARSKI: what is reached has the roots, and with each thing its kids -/
theorem rch_closed {K : List (List Int)} {R : List Int} (h : rErr K R = 0) : ClB K R (rch K R) := by
  obtain ⟨h1, _, h3⟩ := rErr_ok h
  constructor
  · intro k hk
    have hb := h3 k hk
    exact (rch_iff h (by omega)).2 ((rc_cl K R).roots k hk)
  · intro i hi e k hk
    have hb := (h1.kids i hi).2 k hk
    exact (rch_iff h (by omega)).2 ((rc_cl K R).kids i ((rch_iff h hi).1 e) k hk)

/-- every set that has so has all that is reached -/
theorem rch_least {K : List (List Int)} {R : List Int} (h : rErr K R = 0) {s : List Bool} (hs : ClB K R s) {i : Nat} (hi : i < K.length) (e : (rch K R).getD i false = true) : s.getD i false = true :=
  rc_least (clB_cl hs) ((rch_iff h hi).1 e)

theorem rch_joins {K : List (List Int)} {A B : List Int} (hA : rErr K A = 0) (hB : rErr K B = 0) (hAB : rErr K (A ++ B) = 0) {i : Nat} (hi : i < K.length) : (rch K (A ++ B)).getD i false = ((rch K A).getD i false || (rch K B).getD i false) := by
  rw [Bool.eq_iff_iff, Bool.or_eq_true, rch_iff hAB hi, rch_iff hA hi, rch_iff hB hi]
  exact rc_joins K A B i

theorem rch_one {K : List (List Int)} (hg : gErr K = 0) {i : Nat} (hi : i < K.length) : rErr K [(i : Int)] = 0 := by
  unfold rErr
  rw [hg, if_neg (by simp)]
  unfold pErr
  rw [if_neg (by simp), if_pos]
  intro k hk
  rw [List.mem_singleton.1 hk]
  omega

theorem rch_more {K : List (List Int)} {A : List Int} (hA : rErr K A = 0) {i k : Nat} (hi : i < K.length) (hk : k < K.length) (h1 : rErr K [(i : Int)] = 0) (e : (rch K A).getD i false = true) (e2 : (rch K [(i : Int)]).getD k false = true) : (rch K A).getD k false = true :=
  (rch_iff hA hk).2 (rc_more ((rch_iff hA hi).1 e) ((rch_iff h1 hk).1 e2))

/-! ### in order -/

theorem told_all {K : List (List Int)} {out : List Int} (h : Told K K.length out) {i : Nat} (hi : i < K.length) : (i : Int) ∈ out := by
  refine Decidable.byContradiction fun q => ?_
  have h1 : ∀ x ∈ out, x ∈ (upto K.length).erase (i : Int) := fun x hx => (List.mem_erase_of_ne (fun e : x = (i : Int) => q (by rw [← e]; exact hx))).2 (mem_upto.2 (h.in_ x hx))
  have h2 := nodup_le h.once h1
  rw [List.length_erase_of_mem (mem_upto.2 (by omega)), upto_length, h.len] at h2
  omega

/-- where a thing stands -/
theorem told_at {K : List (List Int)} {out : List Int} (h : Told K K.length out) {i : Nat} (hi : i < K.length) : ∃ p, ∃ hp : p < out.length, out[p] = (i : Int) := by
  obtain ⟨p, hp, e⟩ := List.getElem_of_mem (told_all h hi)
  exact ⟨p, hp, e⟩

theorem told_once {K : List (List Int)} {j : Nat} {out : List Int} (h : Told K j out) {p q : Nat} (hp : p < out.length) (hq : q < out.length) (e : out[p] = out[q]) : p = q := by
  have hn := h.once
  rw [List.Nodup, List.pairwise_iff_getElem] at hn
  rcases Nat.lt_trichotomy p q with x | x | x
  · exact absurd e (hn p q hp hq x)
  · exact x
  · exact absurd e.symm (hn q p hq hp x)

/-- kids stand ahead -/
theorem told_ahead {K : List (List Int)} {j : Nat} {out : List Int} (h : Told K j out) {p : Nat} (hp : p < out.length) {i : Nat} (e : out[p] = (i : Int)) {k : Int} (hk : k ∈ kd K i) : ∃ q, ∃ hq : q < out.length, q < p ∧ out[q] = k := by
  have h1 := h.kids p hp k (by rw [e, Int.toNat_natCast]; exact hk)
  obtain ⟨q, hq, e2⟩ := List.getElem_of_mem h1
  rw [List.length_take] at hq
  refine ⟨q, by omega, by omega, ?_⟩
  rw [List.getElem_take] at e2
  exact e2

/-- where all are told none is reached by its own kids -/
theorem told_no_ring {K : List (List Int)} (hK : Ok K) {out : List Int} (h : Told K K.length out) {i : Nat} (hi : i < K.length) : ¬ Rc K (kd K i) i := by
  intro hr
  obtain ⟨p, hp, e⟩ := told_at h hi
  have := rc_least (S := fun j => ∃ q, ∃ hq : q < out.length, q < p ∧ out[q] = (j : Int)) ⟨fun k hk => ?_, fun j hj k hk => ?_⟩ hr
  · obtain ⟨q, hq, hlt, e2⟩ := this
    have := told_once h hq hp (e2.trans e.symm)
    omega
  · obtain ⟨q, hq, hlt, e2⟩ := told_ahead h hp e hk
    have hb := (hK.kids i hi).2 k hk
    exact ⟨q, hq, hlt, by rw [e2]; omega⟩
  · obtain ⟨q, hq, hlt, e2⟩ := hj
    obtain ⟨r, hr, hlt2, e3⟩ := told_ahead h hq e2 hk
    have hjl : j < K.length := by
      have := h.in_ (out[q]) (List.getElem_mem hq)
      rw [e2] at this
      omega
    have hb := (hK.kids j hjl).2 k hk
    exact ⟨r, hr, by omega, by rw [e3]; omega⟩

/-- where not all are told some thing is reached by its own kids -/
theorem stuck {K : List (List Int)} : ∀ j, ordTo K j = none → ∃ m out, m < j ∧ ordTo K m = some out ∧ ∀ i, i < K.length → ¬ Rdy K out i
  | 0, h => by cases h
  | j + 1, h => by
    rw [ordTo] at h
    cases hj : ordTo K j with
    | none =>
      obtain ⟨m, out, h1, h2, h3⟩ := stuck j hj
      exact ⟨m, out, by omega, h2, h3⟩
    | some o =>
      rw [hj] at h
      dsimp only at h
      split at h
      · cases h
      · rename_i h0
        refine ⟨j, o, by omega, hj, ?_⟩
        rcases nxtTo_spec (K := K) (out := o) K.length with ⟨_, h2⟩ | ⟨i, _, h2, _⟩
        · exact h2
        · unfold nxt at h0; omega

theorem ring {K : List (List Int)} (hK : Ok K) (h : ordTo K K.length = none) : ∃ i, i < K.length ∧ Rc K (kd K i) i := by
  obtain ⟨m, out, hm, ho, hr⟩ := stuck K.length h
  have t := ordTo_told m out ho
  -- those that are not told
  have hU : ∃ i, i < K.length ∧ (i : Int) ∉ out := by
    refine Classical.byContradiction fun q => ?_
    have h1 : ∀ x ∈ upto K.length, x ∈ out := fun x hx => by
      have hb := mem_upto.1 hx
      refine Decidable.byContradiction fun y => q ⟨x.toNat, by omega, ?_⟩
      rw [Int.toNat_of_nonneg hb.1]
      exact y
    have hn : (upto K.length).Nodup := by
      unfold upto
      rw [List.Nodup, List.pairwise_map]
      exact List.nodup_range.imp fun {a b} hab e => hab (by omega)
    have := nodup_le hn h1
    rw [upto_length, t.len] at this
    omega
  have hf : ∀ i : Nat, ∃ j : Nat, (i < K.length ∧ (i : Int) ∉ out) → (j < K.length ∧ (j : Int) ∉ out ∧ (j : Int) ∈ kd K i) := by
    intro i
    by_cases q : i < K.length ∧ (i : Int) ∉ out
    · have h1 := hr i q.1
      have h2 : ∃ x ∈ kd K i, x ∉ out := by
        refine Classical.byContradiction fun y => h1 ⟨q.2, fun x hx => ?_⟩
        exact Decidable.byContradiction fun z => y ⟨x, hx, z⟩
      obtain ⟨x, hx, hxo⟩ := h2
      have hb := (hK.kids i q.1).2 x hx
      have e : ((x.toNat : Nat) : Int) = x := by omega
      exact ⟨x.toNat, fun _ => ⟨by omega, by rw [e]; exact hxo, by rw [e]; exact hx⟩⟩
    · exact ⟨0, fun y => absurd y q⟩
  obtain ⟨u, hu⟩ := hU
  obtain ⟨f, hf⟩ := Classical.axiomOfChoice hf
  -- one kid after another
  have ha : ∀ n, (Nat.rec u (fun _ x => f x) n : Nat) < K.length ∧ ((Nat.rec u (fun _ x => f x) n : Nat) : Int) ∉ out := by
    intro n
    induction n with
    | zero => exact hu
    | succ n ih =>
      have := hf _ ih
      exact ⟨this.1, this.2.1⟩
  generalize hA : (fun n => (Nat.rec u (fun _ x => f x) n : Nat)) = A at *
  have hA' : ∀ n, (Nat.rec u (fun _ x => f x) n : Nat) = A n := fun n => congrFun hA n
  have hstep : ∀ n, A (n + 1) = f (A n) := fun n => by rw [← hA]
  simp only [hA'] at ha
  have hkid : ∀ n, ((A (n + 1) : Nat) : Int) ∈ kd K (A n) := fun n => by
    rw [hstep]
    exact (hf _ (ha n)).2.2
  -- two of them are one
  have hpg : ∃ p q, p < q ∧ A p = A q := by
    refine Classical.byContradiction fun y => ?_
    have hn : ((List.range (K.length + 1)).map fun n => ((A n : Nat) : Int)).Nodup := by
      rw [List.Nodup, List.pairwise_map, List.pairwise_iff_getElem]
      intro p q hp hq hpq e
      rw [List.getElem_range, List.getElem_range] at e
      exact y ⟨p, q, hpq, by omega⟩
    have := nodup_le hn (B := upto K.length) fun x hx => by
      obtain ⟨n, _, rfl⟩ := List.mem_map.1 hx
      have := (ha n).1
      exact mem_upto.2 (by omega)
    rw [upto_length] at this
    simp at this
    omega
  obtain ⟨p, q, hpq, e⟩ := hpg
  refine ⟨A p, (ha p).1, ?_⟩
  have hreach : ∀ d, Rc K (kd K (A p)) (A (p + 1 + d)) := by
    intro d
    induction d with
    | zero =>
      have := (rc_cl K (kd K (A p))).roots _ (hkid p)
      rwa [Int.toNat_natCast] at this
    | succ d ih =>
      have := (rc_cl K (kd K (A p))).kids _ ih _ (hkid (p + 1 + d))
      rwa [Int.toNat_natCast] at this
  have := hreach (q - (p + 1))
  rw [show p + 1 + (q - (p + 1)) = q by omega, ← e] at this
  exact this

/-- one of the two: all are told, or some thing is reached by its own kids -/
theorem order_or {K : List (List Int)} (hg : gErr K = 0) : (oErr K = 0 ∧ Told K K.length (order K) ∧ ∀ i, i < K.length → ¬ Rc K (kd K i) i) ∨ (oErr K = 4 ∧ order K = [] ∧ ∃ i, i < K.length ∧ Rc K (kd K i) i) := by
  have hK := gErr_ok hg
  by_cases h : oErr K = 0
  · exact .inl ⟨h, (order_told h).2, fun i hi => told_no_ring hK (order_told h).2 hi⟩
  · right
    have ho : ordTo K K.length = none := by
      refine Decidable.byContradiction fun q => h ?_
      unfold oErr
      rw [hg, if_neg (by simp), if_neg q]
    refine ⟨?_, ?_, ring hK ho⟩
    · unfold oErr
      rw [hg, if_neg (by simp), if_pos ho]
    · unfold order
      rw [hg, if_neg (by simp), ho]
      rfl

end Gr
end Go.Proofs.Ytoibiaikbgkbpaa
