/-
  A region that draws its order, whose operations but the last only read (their callees leave what was there), and whose last one waits for all others.
-/
import Derived.Test.YtcgecafajgoeeaaDoorQuietSince
import Derived.OrdersIn
import Derived.ControlIn
namespace Go.Proofs.YtcgecafajgoeeaaDoor
open Go.RowKit

/-- what is listed comes behind what it waits for -/
def closedB (md : Region.Mode) (ops : Array Oper) (listed : Array Bool) : Bool :=
  (List.range ops.size).all fun j => !listed.getD j false || (match ops[j]? with | none => true | some o => o.after.all fun e => !Region.binds md e || listed.getD e.on false)
def lists : Nat → List (List Bool)
  | 0 => [[]]
  | n + 1 => (lists n).flatMap fun l => [true :: l, false :: l]
theorem mem_lists (l : List Bool) : ∀ n, l.length = n → l ∈ lists n := by
  induction l with
  | nil => intro n h; subst h; simp [lists]
  | cons b l ih =>
    intro n h
    subst h
    rw [List.length_cons, lists, List.mem_flatMap]
    refine ⟨l, ih _ rfl, ?_⟩
    cases b <;> simp
/-- operation z waits for all others -/
def lastB (md : Region.Mode) (ops : Array Oper) (z : Nat) : Bool :=
  (lists ops.size).all fun l => !closedB md ops l.toArray || ((l.toArray.getD z true || !(Region.ready md ops l.toArray).isEmpty) && (!(Region.ready md ops l.toArray).contains z || (Region.ready md ops (l.toArray.setIfInBounds z true)).isEmpty))

theorem getD_set_other {listed : Array Bool} {i j : Nat} (d : Bool) (h : j ≠ i) : (listed.setIfInBounds i true).getD j d = listed.getD j d := by
  rw [Array.getD_eq_getD_getElem?, Array.getD_eq_getD_getElem?, Array.getElem?_setIfInBounds_ne (Ne.symm h)]
section
variable {P : Program} {md : Region.Mode} {ops ops' : Array Oper} {C : World → Prop} {n : Nat}
theorem last_spec {z : Nat} (h : lastB md ops z = true) {listed : Array Bool} (hs : listed.size = ops.size) (hc : closedB md ops listed = true) :
    (listed.getD z true = false → Region.ready md ops listed ≠ []) ∧ (z ∈ Region.ready md ops listed → Region.ready md ops (listed.setIfInBounds z true) = []) := by
  have h1 := List.all_eq_true.1 h listed.toList (mem_lists _ _ (by rw [Array.length_toList]; exact hs))
  simp only [Array.toArray_toList, hc, Bool.not_true, Bool.false_or, Bool.and_eq_true, Bool.or_eq_true, Bool.not_eq_true', List.isEmpty_iff] at h1
  obtain ⟨a, b⟩ := h1
  refine ⟨fun e h0 => ?_, fun hz => ?_⟩
  · rcases a with a | a
    · rw [e] at a; cases a
    · rw [h0] at a; cases a
  · rcases b with b | b
    · rw [List.contains_iff_mem.2 hz] at b; cases b
    · exact b
theorem closed_set {i : Nat} {listed : Array Bool} (hc : closedB md ops listed = true) (hi : i ∈ Region.ready md ops listed) : closedB md ops (listed.setIfInBounds i true) = true := by
  have up : ∀ j, listed.getD j false = true → (listed.setIfInBounds i true).getD j false = true := fun j hj => by
    by_cases e : j = i
    · subst e
      have hlt : j < listed.size := by
        rcases Nat.lt_or_ge j listed.size with h | h
        · exact h
        · simp [Array.getD, Nat.not_lt.2 h] at hj
      simp [Array.getD, hlt]
    · rw [getD_set_other false e]; exact hj
  obtain ⟨_, o, ho, hall⟩ := mem_ready.1 hi
  unfold closedB at hc ⊢
  rw [List.all_eq_true] at hc ⊢
  intro j hj
  have hcj := hc j hj
  by_cases e : j = i
  · subst e
    rw [ho, Bool.or_eq_true]
    right
    dsimp only
    rw [Array.all_eq_true']
    intro ed hed
    cases hb : Region.binds md ed with
    | false => rfl
    | true => rw [up _ (hall ed hed hb)]; rfl
  · rw [show (listed.setIfInBounds i true).getD j false = listed.getD j false from getD_set_other false e]
    cases hl : listed.getD j false with
    | false => rfl
    | true =>
      rw [hl] at hcj
      rw [Bool.not_true, Bool.false_or] at hcj ⊢
      cases hoj : ops[j]? with
      | none => rfl
      | some oj =>
        rw [hoj] at hcj
        dsimp only at hcj ⊢
        rw [Array.all_eq_true'] at hcj ⊢
        intro ed hed
        have := hcj ed hed
        cases hb : Region.binds md ed with
        | false => rfl
        | true =>
          rw [hb, Bool.not_true, Bool.false_or] at this
          rw [up _ this]; rfl
theorem wideIn_of_quiet {o : Oper} {a : Act} {K : Act → Prop} {K' : Act → World → Prop} {Q' : Exit → Act → World → Prop} {w : World} (hw : C w) (h : ∀ a w', C w' → K a → K' a w') (hh : o.quiet P a C K) : o.wpIn Fence.wide n P a w K' Q' := by
  obtain ⟨v, h1, h2⟩ := hh
  have h3 := h1 w hw
  unfold Oper.quietAt at h3
  unfold Oper.wpIn
  refine ⟨fun _ _ => trivial, ?_⟩
  rw [show Fence.wide.round = none from rfl, Oper.semAt_none]
  generalize (execOp a.eval o).run P w = r at *
  cases r with
  | ok x w' =>
    cases x <;> simp only [Oper.quietUpon] at h3 <;> simp only [Oper.uponIn]
    case value u =>
      obtain ⟨e1, e2⟩ := h3
      rw [e1, e2]
      exact h _ _ hw h2
    case skip =>
      obtain ⟨e1, e2⟩ := h3
      rw [e1, ← e2]
      exact h _ _ hw h2
    case enter f args =>
      obtain ⟨e1, hc⟩ := h3
      rw [e1]
      exact ⟨fun h => by simp [Fence.wide] at h, callsIn_wide.2 (hc.mono fun e w'' ⟨he, hw''⟩ => by subst he; exact h _ _ hw'' h2)⟩
  | halt x w' => simp only [Oper.quietUpon] at h3
theorem anyIn_of_last {z : Nat} {o' : Oper} {Qz : Act → Prop} {Q : Exit → Act → World → Prop} (hL : lastB md ops z = true) (hsame : ∀ i, i ≠ z → ops'[i]? = ops[i]?) (hrd : ∀ listed, Region.ready md ops' listed = Region.ready md ops listed)
    (hg : ∀ (i : Nat) (o : Oper), ops[i]? = some o → o.guard = none) (ho' : ops'[z]? = some o') (hg' : o'.guard = none) (hd' : o'.dst = none)
    (hlast : ∀ a w, C w → Qz a → wpOpIn Fence.wide n P ops Q z (fun a' w' => Q .normal a' w') a w) :
    ∀ (fuel : Nat) (listed : Array Bool) (a : Act) (w : World), C w → listed.size = ops.size → closedB md ops listed = true → listed.getD z true = false → wpAnyQ P md ops' C Qz fuel listed a → wpAnyIn Fence.wide n P md ops Q fuel listed a w := by
  intro fuel
  induction fuel with
  | zero =>
    intro listed a w hC hs hc hz h
    exact absurd (by rw [← hrd]; exact h.1) ((last_spec hL hs hc).1 hz)
  | succ fuel ih =>
    intro listed a w hC hs hc hz h
    refine ⟨fun h0 => absurd h0 ((last_spec hL hs hc).1 hz), fun i hi => ?_⟩
    have hq := h.2 i (by rw [hrd]; exact hi)
    by_cases e : i = z
    · subst e
      have hr0 := (last_spec hL hs hc).2 hi
      unfold qOp at hq
      rw [ho'] at hq
      simp only [Region.wanted, hg', if_true] at hq
      obtain ⟨v, _, hn⟩ := hq
      rw [hd'] at hn
      have hQz : Qz a := by
        cases fuel with
        | zero => exact hn.2
        | succ f => exact hn.1 (by rw [hrd]; exact hr0)
      refine wpOpIn_mono (fun a' w' hQ => ?_) (hlast a w hC hQz)
      cases fuel with
      | zero => exact ⟨hr0, hQ⟩
      | succ f => exact ⟨fun _ => hQ, by rw [hr0]; simp⟩
    · unfold qOp at hq
      rw [hsame i e] at hq
      unfold wpOpIn
      have hs' : (listed.setIfInBounds i true).size = ops.size := by rw [Array.size_setIfInBounds]; exact hs
      have hc' := closed_set hc hi
      have hz' : (listed.setIfInBounds i true).getD z true = false := by
        rw [show (listed.setIfInBounds i true).getD z true = listed.getD z true from getD_set_other true (Ne.symm e)]; exact hz
      cases ho : ops[i]? with
      | none => rw [ho] at hq; exact ih _ _ _ hC hs' hc' hz' hq
      | some o =>
        rw [ho] at hq
        simp only [Region.wanted, hg i o ho, if_true] at hq ⊢
        exact wideIn_of_quiet hC (fun a' w' hC' hK => ih _ _ _ hC' hs' hc' hz' hK) hq
end
/-- the last one, put to rest -/
def mute (o : Oper) : Oper := { o with op := .move (.const undef), dst := none }
theorem wpIn_region_last {P : Program} {id n : Nat} {Q : Exit → Act → World → Prop} {a : Act} {w : World} {l : List Oper} {B : Nat} {W0 : World} (z : Nat) (o : Oper) (hz : l[z]? = some o) (hm : P.follows .mixedOrders = true)
    (hB : Region.lexB .any (l.modify z mute).toArray = true) (hL : lastB .any l.toArray z = true) (hg : l.all (fun o => o.guard.isNone) = true) (h0 : closedB .any l.toArray (Array.replicate l.length false) = true) (hw : Below B W0 w)
    (h : wpQuiet P (l.modify z mute).toArray (fun w' => ∃ X : Since B W0, w' = X.val) (fun a' => ∀ w', (∃ X : Since B W0, w' = X.val) → wpOpIn Fence.wide n P l.toArray Q z (fun a'' w'' => Q .normal a'' w'') a' w') (l.modify z mute) a) :
    (Code.region id l.toArray true).wpIn Fence.wide n P Q a w := by
  have hgs : ∀ (i : Nat) (o : Oper), l.toArray[i]? = some o → o.guard = none := fun i o ho => by
    have := List.all_eq_true.1 hg o (List.mem_of_getElem? (by simpa using ho))
    simpa using this
  have hzl : z < l.length := (List.getElem?_eq_some_iff.1 hz).1
  have hrd : ∀ listed, Region.ready .any (l.modify z mute).toArray listed = Region.ready .any l.toArray listed := fun listed => by
    unfold Region.ready
    simp only [List.size_toArray, List.length_modify]
    congr 1
    funext j
    simp only [List.getElem?_toArray, List.getElem?_modify]
    by_cases e : z = j
    · subst e; rw [hz]; simp [mute]
    · simp [e]
  simp only [Region.lexB, Bool.and_eq_true] at hB
  refine wpIn_region_any hm ?_
  refine anyIn_of_last (z := z) (o' := mute o) (Qz := fun a' => ∀ w', (∃ X : Since B W0, w' = X.val) → wpOpIn Fence.wide n P l.toArray Q z (fun a'' w'' => Q .normal a'' w'') a' w') (C := fun w' => ∃ X : Since B W0, w' = X.val) (ops' := (l.modify z mute).toArray) hL (fun i hi => ?_) hrd hgs (by simp [hz]) ?_ rfl
    (fun a' w' hC hq => hq w' hC) _ _ _ _ ⟨⟨_, hw.drew⟩, rfl⟩ (by simp) (by simpa using h0) (by simp [Array.getD, hzl]) ?_
  · simp [Ne.symm hi]
  · exact hgs z o (by simpa using hz)
  · have := wpAnyQ_lex (P := P) (C := fun w' => ∃ X : Since B W0, w' = X.val) (md := .any) hB.1 (l.modify z mute) 0 (Array.replicate (l.modify z mute).toArray.size false) a (by simp) (by simpa using hB.2) h
    simpa using this
end Go.Proofs.YtcgecafajgoeeaaDoor
