/-
  Plain facts (no Go in here): who is reached, thing by thing, each with its kids at once.
-/
import Derived.Test.YtoibiaikbgkbpaaGrLaws
namespace Go.Proofs.Ytoibiaikbgkbpaa
namespace Gr

/-- g is f, and what the things reach: of who is new the kids are in, too -/
structure Ra (K : List (List Int)) (f : Nat → Bool) (T : List Int) (g : Nat → Bool) : Prop where
  mono : ∀ i, f i = true → g i = true
  things : ∀ k ∈ T, g k.toNat = true
  kids : ∀ i, g i = true → f i = false → ∀ k ∈ kd K i, g k.toNat = true
  sound : ∀ S : Nat → Prop, (∀ i, f i = true → S i) → (∀ k ∈ T, S k.toNat) → (∀ i, S i → ∀ k ∈ kd K i, S k.toNat) → ∀ i, g i = true → S i

theorem ra_nil (K : List (List Int)) (f : Nat → Bool) : Ra K f [] f :=
  ⟨fun _ h => h, fun k hk => absurd hk (by simp), fun i h1 h2 => (by rw [h1] at h2; cases h2), fun _ h _ _ => h⟩

theorem mem_take_next {T : List Int} {m : Nat} (hm : m < T.length) {k : Int} (hk : k ∈ T.take (m + 1)) : k ∈ T.take m ∨ k = T[m] := by
  rw [List.take_succ_eq_append_getElem hm, List.mem_append, List.mem_singleton] at hk
  exact hk

/-- who was reached already -/
theorem ra_had {K : List (List Int)} {f g : Nat → Bool} {T : List Int} {m : Nat} (hm : m < T.length) (h : Ra K f (T.take m) g) (hg : g T[m].toNat = true) : Ra K f (T.take (m + 1)) g :=
  ⟨h.mono, fun k hk => by rcases mem_take_next hm hk with q | rfl; exact h.things k q; exact hg, h.kids,
    fun S h1 h2 h3 => h.sound S h1 (fun k hk => h2 k (by rw [List.take_succ_eq_append_getElem hm]; exact List.mem_append_left _ hk)) h3⟩

/-- who is new: his kids are reached at once -/
theorem ra_new {K : List (List Int)} {f g r : Nat → Bool} {T : List Int} {m k : Nat} (hm : m < T.length) (e : T[m] = (k : Int)) (h : Ra K f (T.take m) g) (hr : Ra K (up g k) (kd K k) r) : Ra K f (T.take (m + 1)) r := by
  have hup : ∀ i, g i = true → r i = true := fun i hi => hr.mono i (up_mono _ _ _ hi)
  have hk : r k = true := hr.mono k (by unfold up; rw [if_pos rfl])
  refine ⟨fun i hi => hup i (h.mono i hi), fun x hx => ?_, fun i h1 h2 x hx => ?_, fun S h1 h2 h3 i hi => ?_⟩
  · rcases mem_take_next hm hx with q | q
    · exact hup _ (h.things x q)
    · rw [q, e, Int.toNat_natCast]; exact hk
  · by_cases q : up g k i = true
    · by_cases y : i = k
      · subst y; exact hr.things x hx
      · unfold up at q
        rw [if_neg y] at q
        exact hup _ (h.kids i q h2 x hx)
    · exact hr.kids i h1 (by simpa using q) x hx
  · have hT : T[m] ∈ T.take (m + 1) := by rw [List.take_succ_eq_append_getElem hm]; exact List.mem_append_right _ (by simp)
    have hSk : S k := by
      have := h2 _ hT
      rwa [e, Int.toNat_natCast] at this
    have hg := h.sound S h1 (fun k hk => h2 k (by rw [List.take_succ_eq_append_getElem hm]; exact List.mem_append_left _ hk)) h3
    refine hr.sound S (fun j hj => ?_) (h3 k hSk) h3 i hi
    unfold up at hj
    split at hj
    · rename_i y; rw [y]; exact hSk
    · exact hg j hj

/-- out of none: what is reached -/
theorem ra_rch {K : List (List Int)} (hK : Ok K) {R : List Int} (hR : ∀ k ∈ R, 0 ≤ k ∧ k < (K.length : Int)) {g : Nat → Bool} (h : Ra K (fun _ => false) R g) {i : Nat} (hi : i < K.length) : g i = rj K K.length (rt R) i := by
  rw [Bool.eq_iff_iff, rj_rc hK hR hi]
  constructor
  · exact fun hg => h.sound (Rc K R) (fun _ q => by cases q) (rc_cl K R).roots (rc_cl K R).kids i hg
  · exact fun hc => rc_least (S := fun j => g j = true) ⟨h.things, fun j hj k hk => h.kids j hj rfl k hk⟩ hc

theorem cnt_up {f g : Nat → Bool} (h : ∀ i, f i = true → g i = true) {k n : Nat} (hk : k < n) (hg : g k = false) : cnt f n < cnt (up g k) n := by
  have h1 := cnt_mono h n
  have h2 := cnt_more (up_mono g k) hg (by unfold up; rw [if_pos rfl]) n hk
  omega

/-! ### in order -/

/-- who is told so far -/
def tl (out : List Int) : Nat → Bool := fun i => decide ((i : Int) ∈ out)
theorem tl_nil : tl [] = fun _ => false := by funext i; simp [tl]
theorem tl_next (out : List Int) (k i : Nat) : (if i = k then true else tl out i) = tl (out ++ [(k : Int)]) i := by
  unfold tl
  by_cases h : i = k
  · subst h; simp
  · rw [if_neg h, Bool.eq_iff_iff, decide_eq_true_eq, decide_eq_true_eq, List.mem_append, List.mem_singleton]
    exact ⟨.inl, fun q => q.resolve_right (by omega)⟩

/-- who may be told is not told: not all are -/
theorem rdy_lt {K : List (List Int)} {j : Nat} {out : List Int} (h : ordTo K j = some out) (hj : j ≤ K.length) {i : Nat} (hi : i < K.length) (hr : (i : Int) ∉ out) : j < K.length := by
  by_cases e : j = K.length
  · subst e
    exact absurd (told_all (ordTo_told _ _ h) hi) hr
  · omega

/-- the next one that is told -/
theorem ord_next {K : List (List Int)} {j : Nat} {out : List Int} (h : ordTo K j = some out) {k : Nat} (hk : k < K.length) (h1 : Rdy K out k) (h2 : ∀ a, a < k → ¬ Rdy K out a) : ordTo K (j + 1) = some (out ++ [(k : Int)]) := by
  have e : nxt K out = (k : Int) := nxtTo_first h2 h1 _ hk
  rw [ordTo, h]
  dsimp only
  rw [e, if_pos (by omega)]

/-- none is left -/
theorem ord_end {K : List (List Int)} (hg : gErr K = 0) {j : Nat} {out : List Int} (h : ordTo K j = some out) (hj : j ≤ K.length) (h2 : ∀ a, a < K.length → ¬ Rdy K out a) :
    (j = K.length ∧ oErr K = 0 ∧ order K = out) ∨ (j < K.length ∧ oErr K = 4 ∧ order K = []) := by
  by_cases e : j = K.length
  · subst e
    refine .inl ⟨rfl, ?_, ?_⟩
    · unfold oErr; rw [hg, if_neg (by simp), h, if_neg (by simp)]
    · unfold order; rw [hg, if_neg (by simp), h]; rfl
  · right
    have hn : ordTo K K.length = none := by
      have h1 : nxt K out = -1 := nxtTo_none _ h2
      have h3 : ordTo K (j + 1) = none := by rw [ordTo, h]; dsimp only; rw [h1, if_neg (by omega)]
      have : ∀ d, ordTo K (j + 1 + d) = none := by
        intro d
        induction d with
        | zero => exact h3
        | succ d ih => rw [show j + 1 + (d + 1) = (j + 1 + d) + 1 by omega, ordTo, ih]
      have := this (K.length - (j + 1))
      rwa [show j + 1 + (K.length - (j + 1)) = K.length by omega] at this
    refine ⟨by omega, ?_, ?_⟩
    · unfold oErr; rw [hg, if_neg (by simp), if_pos hn]
    · unfold order; rw [hg, if_neg (by simp), hn]; rfl

end Gr
end Go.Proofs.Ytoibiaikbgkbpaa
