/-
  The same walk for a region that keeps the order of the text.
-/
import Derived.Test.YtpagbihebahnnaaRelReg
namespace Go.Proofs.Ytpagbihebahnnaa
open Go.RowKit

theorem deps_lt {ops : Array Oper} (i j : Nat) (hj : (deps ops i).contains j = true) : j < i := by
  unfold deps at hj
  cases ho : ops[i]? with
  | none => rw [ho] at hj; simp at hj
  | some o' =>
    rw [ho] at hj
    have := List.mem_filter.1 (List.contains_iff_mem.1 hj)
    exact List.mem_range.1 this.1
section
variable {P : Program} {ops : Array Oper} {G : World → World → Prop} {W0 : World} {Q : Exit → Act → World → Prop}
theorem wpList_of_walkR {n : Nat} (hGr : ∀ w, G w w) (hG : ∀ w w' w'', G w w' → G w' w'' → G w w'') : ∀ (l : List Oper) (k : Nat) (env : Nat → Law) (A : (Nat → Value) → Act), k + l.length = n →
    (∀ v v' : Nat → Value, (∀ j, j < k → v j = v' j) → A v = A v') → (∀ j, j < k → ∀ u w w', env j u w → G w w' → env j u w') →
    walkR P G W0 ops (fun env A => ∀ v w, G W0 w → (∀ j, j < n → env j (v j) w) → Q .normal (A v) w) l k env A → ∀ v w, G W0 w → (∀ j, j < k → env j (v j) w) → wpList P ops Q l (A v) w
  | [], k, env, A, hn, _, _, h, v, w, hw, hv => h v w hw fun j hj => hv j (by simp at hn; omega)
  | o :: l, k, env, A, hn, hA, hmono, h, v, w, hw, hv => by
    have go : ∀ (U : Law) (y : (Nat → Value) → Value), (∀ u w w', U u w → G w w' → U u w') → (∀ v w, U (v k) w → y v = v k) → (∀ v v' : Nat → Value, (∀ j, j < k + 1 → v j = v' j) → y v = y v') →
        (∀ v w, G W0 w → (∀ j, (deps ops k).contains j = true → env j (v j) w) → StepR P G U ops o (A v) w) →
        walkR P G W0 ops (fun env A => ∀ v w, G W0 w → (∀ j, j < n → env j (v j) w) → Q .normal (A v) w) l (k + 1) (upd env k U) (fun v => (A v).put o.dst (y v)) → wpList P ops Q (o :: l) (A v) w := by
      intro U y hU hy hy2 hstep hwalk
      have ih := wpList_of_walkR hGr hG l (k + 1) (upd env k U) (fun v => (A v).put o.dst (y v)) (by rw [List.length_cons] at hn; omega)
        (fun v v' e => by rw [hA v v' fun j hj => e j (by omega), hy2 v v' e])
        (fun j hj u w w' h1 hg => by
          by_cases e : j = k
          · subst e; simp only [upd, if_true] at h1 ⊢; exact hU u w w' h1 hg
          · simp only [upd, e, if_false] at h1 ⊢; exact hmono j (by omega) u w w' h1 hg) hwalk
      have hst := hstep v w hw fun j hj => hv j (deps_lt k j hj)
      have next : ∀ u w', U u w' → G w w' → wpList P ops Q l ((A v).put o.dst u) w' := fun u w' hu hg => by
        have h1 := ih (fun j => if j = k then u else v j) w' (hG _ _ _ hw hg) (fun j hj => by
          by_cases e : j = k
          · subst e; simp only [upd, if_true]; exact hu
          · simp only [upd, e, if_false]; exact hmono j (by omega) _ _ _ (hv j (by omega)) hg)
        have e1 : A (fun j => if j = k then u else v j) = A v := hA _ _ fun j hj => by simp [show j ≠ k from by omega]
        have e2 : y (fun j => if j = k then u else v j) = u := by
          have := hy (fun j => if j = k then u else v j) w' (by simpa using hu)
          simpa using this
        rwa [e1, e2] at h1
      unfold wpList
      unfold StepR at hst
      split
      · rename_i hwt
        rw [if_pos hwt] at hst
        have h1 := hst _ next
        refine .inl ?_
        unfold Oper.wp at *
        generalize (execOp (A v).eval o).run P w = r at *
        cases r with
        | ok x w' =>
          cases x <;> simp only [Oper.upon] at h1 ⊢ <;> first | exact h1 | (refine Calls.mono h1 fun e w'' he => ?_; cases e <;> first | exact he | exact he.elim | exact absurd he (by simp [LetsOut]))
        | halt y w' => cases y <;> simp only [Oper.upon] at h1
      · rename_i hwt
        rw [if_neg hwt] at hst
        exact next undef w hst (hGr w)
    rcases h with ⟨c, hs, hw'⟩ | ⟨U, hU, hs, hw'⟩
    · exact go (fun u _ => u = c) (fun _ => c) (fun _ _ _ e _ => e) (fun _ _ e => e.symm) (fun _ _ _ => rfl) hs hw'
    · exact go U (fun v => v k) hU (fun _ _ _ => rfl) (fun _ _ e => e k (by omega)) hs hw'
theorem wp_region_seq {id : Nat} {a : Act} {w : World} {l : List Oper} (hGr : ∀ w, G w w) (hG : ∀ w w' w'', G w w' → G w' w'' → G w w'') (hw : G W0 w)
    (h : walkR P G W0 l.toArray (fun env A => ∀ v w, G W0 w → (∀ j, j < l.length → env j (v j) w) → Q .normal (A v) w) l 0 (fun _ _ _ => True) (fun _ => a)) : (Code.region id l.toArray false).wp P Q a w :=
  wp_region_lit (wpList_of_walkR (n := l.length) hGr hG l 0 _ _ (by simp) (fun _ _ _ => rfl) (fun j hj => by omega) h (fun _ => undef) w hw fun j hj => by omega)
end
end Go.Proofs.Ytpagbihebahnnaa
