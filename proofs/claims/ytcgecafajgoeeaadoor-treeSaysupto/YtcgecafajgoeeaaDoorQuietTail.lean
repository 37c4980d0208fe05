/-
  A region that draws its order, whose first m operations only read (their callees leave what was there), and whose other ones wait for all of these.
-/
import Derived.Test.YtcgecafajgoeeaaDoorQuietLast
import Derived.RegionTactic
namespace Go.Proofs.YtcgecafajgoeeaaDoor
open Go.RowKit

/-- what operation j waits for -/
def afters (md : Region.Mode) (ops : Array Oper) (j : Nat) : List Nat :=
  match ops[j]? with
  | none => []
  | some o => (o.after.toList.filter fun e => Region.binds md e).map (·.on)
def clos (md : Region.Mode) (ops : Array Oper) : Nat → List Nat → List Nat
  | 0, S => S
  | k + 1, S => clos md ops k (S ++ S.flatMap (afters md ops))
/-- the operations from m on wait for all ahead of m -/
def tailB (md : Region.Mode) (ops : Array Oper) (m k : Nat) : Bool :=
  (List.range m).all (fun i => (clos md ops k (afters md ops m)).contains i) && ((List.range ops.size).all (fun j => decide (j ≤ m) || (clos md ops k (afters md ops j)).contains m) &&
    (List.range ops.size).all (fun j => (afters md ops j).all fun i => decide (i < j)))
section
variable {P : Program} {md : Region.Mode} {ops ops' : Array Oper} {C : World → Prop}
theorem afters_listed {listed : Array Bool} (hc : closedB md ops listed = true) {j : Nat} (hj : listed.getD j false = true) : ∀ i ∈ afters md ops j, listed.getD i false = true := by
  intro i hi
  unfold afters at hi
  cases ho : ops[j]? with
  | none => rw [ho] at hi; simp at hi
  | some o =>
    rw [ho] at hi
    obtain ⟨e, he, rfl⟩ := List.mem_map.1 hi
    obtain ⟨he1, he2⟩ := List.mem_filter.1 he
    have hlt : j < ops.size := (Array.getElem?_eq_some_iff.1 ho).1
    have := List.all_eq_true.1 hc j (List.mem_range.2 hlt)
    rw [hj, ho, Bool.not_true, Bool.false_or] at this
    have h2 := (Array.all_eq_true'.1 this) e (Array.mem_toList_iff.1 he1)
    rw [he2, Bool.not_true, Bool.false_or] at h2
    exact h2
theorem clos_listed {listed : Array Bool} (hc : closedB md ops listed = true) : ∀ (k : Nat) (S : List Nat), (∀ i ∈ S, listed.getD i false = true) → ∀ i ∈ clos md ops k S, listed.getD i false = true
  | 0, _, h => h
  | k + 1, S, h => clos_listed hc k _ fun i hi => by
    rcases List.mem_append.1 hi with a | a
    · exact h i a
    · obtain ⟨j, hj, hi'⟩ := List.mem_flatMap.1 a
      exact afters_listed hc (h j hj) i hi'
theorem ready_afters {listed : Array Bool} {j : Nat} (h : j ∈ Region.ready md ops listed) : ∀ i ∈ afters md ops j, listed.getD i false = true := by
  obtain ⟨_, o, ho, hall⟩ := mem_ready.1 h
  intro i hi
  unfold afters at hi
  rw [ho] at hi
  obtain ⟨e, he, rfl⟩ := List.mem_map.1 hi
  obtain ⟨he1, he2⟩ := List.mem_filter.1 he
  exact hall e (Array.mem_toList_iff.1 he1) he2
theorem ready_some {listed : Array Bool} (hs : listed.size = ops.size) (hb : ∀ j, j < ops.size → ∀ i ∈ afters md ops j, i < j) : ∀ (n j : Nat), j ≤ n → j < ops.size → listed.getD j true = false → Region.ready md ops listed ≠ [] := by
  intro n
  induction n with
  | zero =>
    intro j hn hj hf h0
    obtain rfl : j = 0 := by omega
    have : 0 ∈ Region.ready md ops listed := by
      refine mem_ready.2 ⟨hf, ops[0], Array.getElem?_eq_getElem hj, fun e he hbd => ?_⟩
      have := hb 0 hj e.on (by unfold afters; rw [Array.getElem?_eq_getElem hj]; exact List.mem_map_of_mem (List.mem_filter.2 ⟨Array.mem_toList_iff.2 he, hbd⟩))
      omega
    rw [h0] at this
    simp at this
  | succ n ih =>
    intro j hn hj hf h0
    by_cases hall : ∀ i ∈ afters md ops j, listed.getD i false = true
    · have : j ∈ Region.ready md ops listed := by
        refine mem_ready.2 ⟨hf, ops[j], Array.getElem?_eq_getElem hj, fun e he hbd => ?_⟩
        exact hall e.on (by unfold afters; rw [Array.getElem?_eq_getElem hj]; exact List.mem_map_of_mem (List.mem_filter.2 ⟨Array.mem_toList_iff.2 he, hbd⟩))
      rw [h0] at this
      simp at this
    · simp only [Classical.not_forall] at hall
      obtain ⟨i, hi, hl⟩ := hall
      have hij := hb j hj i hi
      refine ih i (by omega) (by omega) ?_ h0
      have hlt : i < listed.size := by omega
      simp [Array.getD, hlt] at hl ⊢
      exact hl
/-- the first m listed, no other one -/
def upTo (m n : Nat) : Array Bool := (List.replicate m true ++ List.replicate (n - m) false).toArray
theorem upTo_of {listed : Array Bool} {m n : Nat} (hs : listed.size = n) (hm : m ≤ n) (h1 : ∀ i, i < m → listed.getD i false = true) (h2 : ∀ i, m ≤ i → i < n → listed.getD i true = false) : listed = upTo m n := by
  refine Array.ext (by simp [upTo, hs]; omega) fun i hi hi' => ?_
  by_cases c : i < m
  · have := h1 i c
    simp [Array.getD, hi] at this
    rw [this]
    simp [upTo, c]
  · have := h2 i (by omega) (by omega)
    simp [Array.getD, hi] at this
    rw [this]
    simp [upTo, List.getElem_append, c]
theorem count_set {listed : Array Bool} {i fuel : Nat} (hi : i < listed.size) (hf : listed.getD i true = false) (hc : listed.toList.count false = fuel + 1) : (listed.setIfInBounds i true).toList.count false = fuel := by
  have hv : listed[i] = false := by simpa [Array.getD, hi] using hf
  rw [Array.toList_setIfInBounds, List.count_set (by simpa using hi)]
  simp [hv, hc]
/-- the last ones are mute: what is asked at the end is asked here -/
theorem mute_end {m : Nat} {Qz : Act → Prop} (hmu : ∀ i, m ≤ i → i < ops'.size → ∃ o, ops'[i]? = some o ∧ o.guard = none ∧ o.dst = none) : ∀ (fuel : Nat) (listed : Array Bool) (a : Act), (∀ i, i < m → listed.getD i false = true) → wpAnyQ P md ops' C Qz fuel listed a → Qz a
  | 0, _, _, _, h => h.2
  | fuel + 1, listed, a, hl, h => by
    cases hr : Region.ready md ops' listed with
    | nil => exact h.1 hr
    | cons i r =>
      have hi : i ∈ Region.ready md ops' listed := by rw [hr]; exact List.mem_cons_self
      have hq := h.2 i hi
      obtain ⟨hf, o, ho, _⟩ := mem_ready.1 hi
      have hsz : i < ops'.size := (Array.getElem?_eq_some_iff.1 ho).1
      have him : m ≤ i := by
        rcases Nat.lt_or_ge i m with c | c
        · have := hl i c
          rcases Nat.lt_or_ge i listed.size with d | d
          · simp [Array.getD, d] at this hf; rw [this] at hf; cases hf
          · simp [Array.getD, Nat.not_lt.2 d] at this
        · exact c
      obtain ⟨o', ho', g, d⟩ := hmu i him hsz
      unfold qOp at hq
      rw [ho'] at hq
      simp only [Region.wanted, g, if_true] at hq
      obtain ⟨v, _, hn⟩ := hq
      rw [d] at hn
      refine mute_end hmu fuel (listed.setIfInBounds i true) a (fun j hj => ?_) hn
      rw [getD_set_other false (by omega)]
      exact hl j hj
theorem any_of_tail {m k : Nat} {Q : Exit → Act → World → Prop} (hT : tailB md ops m k = true) (hm : m < ops.size) (hs' : ops'.size = ops.size) (hsame : ∀ i, i < m → ops'[i]? = ops[i]?)
    (hmu : ∀ i, m ≤ i → i < ops'.size → ∃ o, ops'[i]? = some o ∧ o.guard = none ∧ o.dst = none) (hrd : ∀ listed, Region.ready md ops' listed = Region.ready md ops listed) (hg : ∀ (i : Nat) (o : Oper), ops[i]? = some o → o.guard = none) :
    ∀ (fuel : Nat) (listed : Array Bool) (a : Act) (w : World), C w → listed.size = ops.size → closedB md ops listed = true → (∀ i, m ≤ i → i < ops.size → listed.getD i true = false) → listed.toList.count false = fuel →
      wpAnyQ P md ops' C (fun a' => ∀ w', C w' → wpAny P md ops Q (ops.size - m) (upTo m ops.size) a' w') fuel listed a → wpAny P md ops Q fuel listed a w := by
  simp only [tailB, Bool.and_eq_true, List.all_eq_true, List.mem_range, Bool.or_eq_true, decide_eq_true_eq, List.contains_iff_mem] at hT
  obtain ⟨hT1, hT2, hT3⟩ := hT
  intro fuel
  induction fuel with
  | zero =>
    intro listed a w hC hs hc hz hn h
    exfalso
    have h1 := hz m (Nat.le_refl _) hm
    have hlt : m < listed.size := by omega
    have h2 : listed[m] = false := by simpa [Array.getD, hlt] using h1
    exact (List.count_eq_zero.1 hn) (h2 ▸ (by simp))
  | succ fuel ih =>
    intro listed a w hC hs hc hz hn h
    by_cases hall : ∀ i, i < m → listed.getD i false = true
    · have he := upTo_of hs (Nat.le_of_lt hm) hall hz
      have hf : fuel + 1 = ops.size - m := by
        rw [← hn, he, upTo]
        simp [List.count_replicate]
      have hq := mute_end hmu (fuel + 1) listed a hall h
      rw [he, hf]
      exact hq w hC
    · simp only [Classical.not_forall] at hall
      obtain ⟨j, hj, hl⟩ := hall
      have hlj : listed.getD j true = false := by
        have hlt : j < listed.size := by omega
        simp [Array.getD, hlt] at hl ⊢
        exact hl
      refine ⟨fun h0 => absurd h0 (ready_some hs hT3 j j (Nat.le_refl _) (by omega) hlj), fun i hi => ?_⟩
      have him : i < m := by
        rcases Nat.lt_or_ge i m with c | c
        · exact c
        · exfalso
          obtain ⟨hfi, o, ho, _⟩ := mem_ready.1 hi
          have hsz : i < ops.size := (Array.getElem?_eq_some_iff.1 ho).1
          rcases Nat.lt_or_ge m i with d | d
          · rcases hT2 i hsz with e | e
            · omega
            · have := clos_listed hc k _ (ready_afters hi) m e
              have h1 := hz m (Nat.le_refl _) hm
              have hlt : m < listed.size := by omega
              simp [Array.getD, hlt] at this h1
              rw [h1] at this
              cases this
          · obtain rfl : i = m := by omega
            exact hl (clos_listed hc k _ (ready_afters hi) j (hT1 j hj))
      have hfi : listed.getD i true = false := (mem_ready.1 hi).1
      have hq := h.2 i (by rw [hrd]; exact hi)
      have hq2 : qOp P ops C i (wpAnyQ P md ops' C (fun a' => ∀ w', C w' → wpAny P md ops Q (ops.size - m) (upTo m ops.size) a' w') fuel (listed.setIfInBounds i true)) a := by
        unfold qOp at hq ⊢
        rw [hsame i him] at hq
        cases ho : ops[i]? with
        | none => rw [ho] at hq; exact hq
        | some o =>
          rw [ho] at hq
          simp only [Region.wanted, hg i o ho, if_true] at hq ⊢
          exact hq
      refine wpOp_of_qOp hC (fun a' w' hC' hK => ih _ _ _ hC' (by rw [Array.size_setIfInBounds]; exact hs) (closed_set hc hi) (fun p hp hp2 => ?_) (count_set (by omega) hfi hn) hK) hq2
      rw [getD_set_other true (by omega)]
      exact hz p hp hp2
end
/-- all from m on, put to rest -/
def muted (m : Nat) (l : List Oper) : List Oper := l.take m ++ (l.drop m).map mute
theorem wpQuiet_muted {P : Program} {ops : Array Oper} {C : World → Prop} {Q : Act → Prop} : ∀ (l : List Oper) (a : Act), l.all (fun o => o.guard.isNone) = true → Q a → wpQuiet P ops C Q (l.map mute) a
  | [], _, _, h => h
  | o :: l, a, hg, h => by
    rw [List.all_cons, Bool.and_eq_true] at hg
    have h0 : o.guard = none := by simpa using hg.1
    rw [List.map_cons]
    unfold wpQuiet
    rw [if_pos (by simp [Region.wanted, mute, h0])]
    refine ⟨undef, fun w _ => ?_, wpQuiet_muted l a hg.2 h⟩
    unfold Oper.quietAt
    simp [mute, execOp, Act.eval, Oper.quietUpon]
theorem wpQuiet_append {P : Program} {ops : Array Oper} {C : World → Prop} {Q : Act → Prop} (l2 : List Oper) : ∀ (l1 : List Oper) (a : Act), wpQuiet P ops C (wpQuiet P ops C Q l2) l1 a → wpQuiet P ops C Q (l1 ++ l2) a
  | [], _, h => h
  | o :: l1, a, h => by
    rw [List.cons_append]
    unfold wpQuiet at h ⊢
    split
    · rename_i hw
      rw [if_pos hw] at h
      exact Oper.quiet_mono (fun a' => wpQuiet_append l2 l1 a') h
    · rename_i hw
      rw [if_neg hw] at h
      exact wpQuiet_append l2 l1 _ h
theorem wpQuiet_mono {P : Program} {ops : Array Oper} {C : World → Prop} {Q Q' : Act → Prop} (hq : ∀ a, Q a → Q' a) : ∀ (l : List Oper) (a : Act), wpQuiet P ops C Q l a → wpQuiet P ops C Q' l a
  | [], a, h => hq a h
  | o :: l, a, h => by
    unfold wpQuiet at h ⊢
    split
    · rename_i hw
      rw [if_pos hw] at h
      exact Oper.quiet_mono (fun a' => wpQuiet_mono hq l a') h
    · rename_i hw
      rw [if_neg hw] at h
      exact wpQuiet_mono hq l _ h
theorem wp_region_tail {P : Program} {id : Nat} {Q : Exit → Act → World → Prop} {a : Act} {w : World} {l : List Oper} {C : World → Prop} (m k : Nat) (hm : P.follows .mixedOrders = true) (hml : m < l.length)
    (hB : Region.lexB .any (muted m l).toArray = true) (hT : tailB .any l.toArray m k = true) (hg : l.all (fun o => o.guard.isNone) = true) (h0 : closedB .any l.toArray (Array.replicate l.length false) = true) (hw : C w.drew)
    (h : wpQuiet P (muted m l).toArray C (fun a' => ∀ w', C w' → wpAny P .any l.toArray Q (l.length - m) (upTo m l.length) a' w') (l.take m) a) :
    (Code.region id l.toArray true).wp P Q a w := by
  have h := wpQuiet_append ((l.drop m).map mute) _ _ (wpQuiet_mono (Q' := wpQuiet P (muted m l).toArray C (fun a' => ∀ w', C w' → wpAny P .any l.toArray Q (l.length - m) (upTo m l.length) a' w') ((l.drop m).map mute)) (fun a' ha => wpQuiet_muted (l.drop m) a' (List.all_eq_true.2 fun o ho => List.all_eq_true.1 hg o (List.mem_of_mem_drop ho)) ha) _ _ h)
  have hgs : ∀ (i : Nat) (o : Oper), l.toArray[i]? = some o → o.guard = none := fun i o ho => by
    have := List.all_eq_true.1 hg o (List.mem_of_getElem? (by simpa using ho))
    simpa using this
  have hlen : (muted m l).length = l.length := by simp [muted]; omega
  have hget : ∀ j, (muted m l)[j]? = if j < m then l[j]? else (l[j]?).map mute := fun j => by
    unfold muted
    by_cases c : j < m
    · rw [List.getElem?_append_left (by simp; omega), if_pos c, List.getElem?_take, if_pos c]
    · rw [List.getElem?_append_right (by simp; omega), if_neg c, List.getElem?_map, List.getElem?_drop]
      congr 2
      simp
      omega
  have hrd : ∀ listed, Region.ready .any (muted m l).toArray listed = Region.ready .any l.toArray listed := fun listed => by
    unfold Region.ready
    simp only [List.size_toArray, hlen]
    congr 1
    funext j
    simp only [List.getElem?_toArray, hget]
    by_cases c : j < m
    · rw [if_pos c]
    · rw [if_neg c]
      cases l[j]? <;> simp [mute]
  simp only [Region.lexB, Bool.and_eq_true] at hB
  refine wp_region_any hm ?_
  refine any_of_tail (m := m) (k := k) (C := C) (ops' := (muted m l).toArray) hT (by simpa using hml) (by simp [hlen]) (fun i hi => by simp only [List.getElem?_toArray, hget]; rw [if_pos hi]) (fun i hi hi2 => ?_) hrd hgs _ _ _ _ hw (by simp) (by simpa using h0) (fun i _ hi => ?_) (by simp) ?_
  · have hl : i < l.length := by simpa [hlen] using hi2
    refine ⟨mute l[i], ?_, ?_, rfl⟩
    · simp only [List.getElem?_toArray, hget]
      rw [if_neg (by omega), List.getElem?_eq_getElem hl]
      rfl
    · exact hgs i l[i] (by simp [hl])
  · have hl : i < l.length := by simpa using hi
    simp [Array.getD, hl]
  · have := wpAnyQ_lex (P := P) (C := C) (md := .any) hB.1 (muted m l) 0 (Array.replicate (muted m l).toArray.size false) a (by simp) (by simpa using hB.2) h
    simpa [hlen] using this
end Go.Proofs.YtcgecafajgoeeaaDoor
