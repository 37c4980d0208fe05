/-
  A region that draws its order, whose first m operations may read, call and make memory, each leaving all that was there (the world only grows), and whose other ones wait for all of these:
  one walk, in the order of the text. What an operation makes is known by a law that stays true while the world grows; all others yield one value, whatever the world.
-/
import Derived.Test.YtcgecafajgoeeaaDoorQuietTail
namespace Go.Proofs.YtcgecafajgoeeaaDoor
open Go.RowKit

/-- which operations ahead of operation k it looks at -/
def deps (ops : Array Oper) (k : Nat) : List Nat :=
  match ops[k]? with
  | none => []
  | some o => (List.range k).filter fun j => match (ops[j]?).bind (·.dst) with | some d => (o.looksAt ops).contains d | none => false
abbrev Law := Value → World → Prop
def upd (env : Nat → Law) (k : Nat) (V : Law) : Nat → Law := fun j => if j = k then V else env j
/-- one operation: what it leaves is as V says, the world has grown -/
def StepR (P : Program) (G : World → World → Prop) (V : Law) (ops : Array Oper) (o : Oper) (a : Act) (w : World) : Prop :=
  if Region.wanted o (yielded ops a.tmps) then ∀ K : Act → World → Prop, (∀ u w', V u w' → G w w' → K (a.put o.dst u) w') → o.wp P a w K (fun _ _ _ => False) else V undef w
/-- the walk in the order of the text -/
def walkR (P : Program) (G : World → World → Prop) (W0 : World) (ops : Array Oper) (End : (Nat → Law) → ((Nat → Value) → Act) → Prop) : List Oper → Nat → (Nat → Law) → ((Nat → Value) → Act) → Prop
  | [], _, env, A => End env A
  | o :: l, k, env, A =>
    (∃ c, (∀ v w, G W0 w → (∀ j, (deps ops k).contains j = true → env j (v j) w) → StepR P G (fun u _ => u = c) ops o (A v) w) ∧ walkR P G W0 ops End l (k + 1) (upd env k fun u _ => u = c) (fun v => (A v).put o.dst c)) ∨
    (∃ V : Law, (∀ u w w', V u w → G w w' → V u w') ∧ (∀ v w, G W0 w → (∀ j, (deps ops k).contains j = true → env j (v j) w) → StepR P G V ops o (A v) w) ∧ walkR P G W0 ops End l (k + 1) (upd env k V) (fun v => (A v).put o.dst (v k)))
/-- the operations that came up, laid over a0 in the order of the text -/
def lay (ops : Array Oper) (a0 : Act) (v : Nat → Value) (f : Nat → Bool) : Nat → Act
  | 0 => a0
  | k + 1 => if f k then (lay ops a0 v f k).put ((ops[k]?).bind (·.dst)) (v k) else lay ops a0 v f k
/-- no slot is written twice; what an operation looks at is there ahead of it, or comes behind it -/
def relB (md : Region.Mode) (ops : Array Oper) (m : Nat) : Bool :=
  ((List.range m).all fun i => (List.range m).all fun j => decide (i = j) || (match (ops[i]?).bind (·.dst) with | some d => decide ((ops[j]?).bind (·.dst) ≠ some d) | none => true)) &&
  ((List.range m).all fun i => match ops[i]? with
    | none => true
    | some o => (List.range m).all fun j => match (ops[j]?).bind (·.dst) with
      | none => true
      | some d => !(o.looksAt ops).contains d || decide (i = j) || (decide (j < i) && (afters md ops i).contains j) || (decide (i < j) && (afters md ops j).contains i)) &&
  (List.range ops.size).all (fun j => (afters md ops j).all fun i => decide (i < j))
section
variable {P : Program} {md : Region.Mode} {ops : Array Oper} {G : World → World → Prop} {W0 : World} {End : (Nat → Law) → ((Nat → Value) → Act) → Prop}
theorem walkR_spec : ∀ (l : List Oper) (k : Nat) (env : Nat → Law) (A : (Nat → Value) → Act), (∀ j, j < l.length → l[j]? = ops[k + j]?) → walkR P G W0 ops End l k env A →
    ∃ (V : Nat → Law) (x : Nat → (Nat → Value) → Value) (B : Nat → (Nat → Value) → Act), (∀ j, j < k → V j = env j) ∧ (∀ j, k ≤ j → j < k + l.length → ∀ u w w', V j u w → G w w' → V j u w') ∧ B k = A ∧
      (∀ i o, k ≤ i → i < k + l.length → ops[i]? = some o → (∀ v, B (i + 1) v = (B i v).put o.dst (x i v)) ∧ (∀ v w, V i (v i) w → x i v = v i) ∧
        (∀ v w, G W0 w → (∀ j, (deps ops i).contains j = true → V j (v j) w) → StepR P G (V i) ops o (B i v) w)) ∧ End V (B (k + l.length))
  | [], k, env, A, _, h => ⟨env, fun _ _ => undef, fun _ => A, fun _ _ => rfl, fun j h1 h2 => by simp at h2; omega, rfl, fun i o h1 h2 => by simp at h2; omega, h⟩
  | o :: l, k, env, A, hl, h => by
    have h0 : ops[k]? = some o := by simpa using (hl 0 (by simp)).symm
    have hl' : ∀ j, j < l.length → l[j]? = ops[k + 1 + j]? := fun j hj => by
      have := hl (j + 1) (by simpa using hj)
      rw [show k + 1 + j = k + (j + 1) from by omega, ← this]
      rfl
    have hdep : ∀ i j, (deps ops i).contains j = true → j < i := fun i j hj => by
      unfold deps at hj
      cases ho : ops[i]? with
      | none => rw [ho] at hj; simp at hj
      | some o' =>
        rw [ho] at hj
        have := List.mem_filter.1 (List.contains_iff_mem.1 hj)
        exact List.mem_range.1 this.1
    have go : ∀ (U : Law) (y : (Nat → Value) → Value), (∀ u w w', U u w → G w w' → U u w') → (∀ v w, U (v k) w → y v = v k) →
        (∀ v w, G W0 w → (∀ j, (deps ops k).contains j = true → env j (v j) w) → StepR P G U ops o (A v) w) → walkR P G W0 ops End l (k + 1) (upd env k U) (fun v => (A v).put o.dst (y v)) →
        ∃ (V : Nat → Law) (x : Nat → (Nat → Value) → Value) (B : Nat → (Nat → Value) → Act), (∀ j, j < k → V j = env j) ∧ (∀ j, k ≤ j → j < k + (o :: l).length → ∀ u w w', V j u w → G w w' → V j u w') ∧ B k = A ∧
          (∀ i o, k ≤ i → i < k + (o :: l).length → ops[i]? = some o → (∀ v, B (i + 1) v = (B i v).put o.dst (x i v)) ∧ (∀ v w, V i (v i) w → x i v = v i) ∧
            (∀ v w, G W0 w → (∀ j, (deps ops i).contains j = true → V j (v j) w) → StepR P G (V i) ops o (B i v) w)) ∧ End V (B (k + (o :: l).length)) := by
      intro U y hU hy hstep hw
      obtain ⟨V, x, B, h1, h2, h3, h4, h5⟩ := walkR_spec l (k + 1) _ _ hl' hw
      have hVk : V k = U := by rw [h1 k (by omega)]; simp [upd]
      have hVj : ∀ j, j < k → V j = env j := fun j hj => by rw [h1 j (by omega)]; simp [upd, show j ≠ k from by omega]
      refine ⟨V, fun i => if i = k then y else x i, fun i => if i = k then A else B i, hVj, fun j a b => ?_, by simp, fun i o' a b ho' => ?_, ?_⟩
      · by_cases e : j = k
        · subst e; rw [hVk]; exact hU
        · exact h2 j (by omega) (by rw [List.length_cons] at b; omega)
      · by_cases e : i = k
        · subst e
          obtain rfl : o = o' := by rw [h0] at ho'; exact Option.some.inj ho'
          refine ⟨fun v => ?_, fun v w hv => ?_, fun v w hw' hd => ?_⟩
          · dsimp only
            rw [if_neg (by omega), if_pos rfl, if_pos rfl, h3]
          · dsimp only
            rw [hVk] at hv; rw [if_pos rfl]; exact hy v w hv
          · dsimp only
            rw [hVk, if_pos rfl]
            refine hstep v w hw' fun j hj => ?_
            have := hd j hj
            rwa [hVj j (hdep i j hj)] at this
        · obtain ⟨q1, q2, q3⟩ := h4 i o' (by omega) (by rw [List.length_cons] at b; omega) ho'
          refine ⟨fun v => ?_, fun v w hv => ?_, fun v w hw' hd => ?_⟩
          · dsimp only
            rw [if_neg (by omega), if_neg e, if_neg e]; exact q1 v
          · dsimp only
            rw [if_neg e]; exact q2 v w hv
          · dsimp only
            rw [if_neg e]; exact q3 v w hw' hd
      · dsimp only
        rw [if_neg (by rw [List.length_cons]; omega), List.length_cons, show k + (l.length + 1) = k + 1 + l.length from by omega]
        exact h5
    rcases h with ⟨c, hs, hw⟩ | ⟨U, hU, hs, hw⟩
    · exact go (fun u _ => u = c) (fun _ => c) (fun _ _ _ e _ => e) (fun _ _ e => e.symm) hs hw
    · exact go U (fun v => v k) hU (fun _ _ _ => rfl) hs hw
theorem put_size (a : Act) (d : Option Tmp) (u : Value) : (a.put d u).tmps.size = a.tmps.size := by cases d <;> simp [Act.put]
theorem lay_size (a0 : Act) (v : Nat → Value) (f : Nat → Bool) : ∀ k, (lay ops a0 v f k).tmps.size = a0.tmps.size
  | 0 => rfl
  | k + 1 => by
    rw [lay]
    split
    · rw [put_size, lay_size a0 v f k]
    · exact lay_size a0 v f k
theorem lay_agree (a0 : Act) {v y : Nat → Value} {f g : Nat → Bool} (t : Nat) : ∀ k, (∀ j, j < k → (ops[j]?).bind (·.dst) = some t → f j = g j ∧ (f j = true → v j = y j)) →
    (lay ops a0 v f k).tmps[t]? = (lay ops a0 y g k).tmps[t]?
  | 0, _ => rfl
  | k + 1, h => by
    have ih := lay_agree a0 t k fun j hj => h j (by omega)
    by_cases e : (ops[k]?).bind (·.dst) = some t
    · obtain ⟨h1, h2⟩ := h k (by omega) e
      rw [lay, lay, ← h1, e]
      cases hf : f k with
      | false => simpa using ih
      | true =>
        have sz : (lay ops a0 v f k).tmps.size = (lay ops a0 y g k).tmps.size := by rw [lay_size, lay_size]
        rw [h2 hf]
        simp only [if_true, Act.put, Array.getElem?_setIfInBounds, sz]
    · have skip : ∀ (b : Act) (u : Value), (b.put ((ops[k]?).bind (·.dst)) u).tmps[t]? = b.tmps[t]? := fun b u => by
        cases hd : (ops[k]?).bind (·.dst) with
        | none => rfl
        | some d =>
          have : d ≠ t := fun q => e (by rw [hd, q])
          simp [Act.put, Array.getElem?_setIfInBounds_ne this]
      rw [lay, lay]
      split <;> split <;> (try rw [skip]) <;> (try rw [skip]) <;> exact ih
theorem lay_same (a0 : Act) {v y : Nat → Value} {f g : Nat → Bool} : ∀ k, (∀ j, j < k → f j = g j ∧ (f j = true → v j = y j)) → lay ops a0 v f k = lay ops a0 y g k
  | 0, _ => rfl
  | k + 1, h => by
    obtain ⟨h1, h2⟩ := h k (by omega)
    rw [lay, lay, lay_same a0 k fun j hj => h j (by omega), ← h1]
    cases hf : f k with
    | false => rfl
    | true => rw [h2 hf]
theorem lay_set (a0 : Act) {v : Nat → Value} {f : Nat → Bool} {i : Nat} {u : Value} (hf : f i = false) {m : Nat} (hd : ∀ j, j < m → j ≠ i → ∀ d, (ops[i]?).bind (·.dst) = some d → (ops[j]?).bind (·.dst) ≠ some d) : ∀ k, k ≤ m → i < k →
    lay ops a0 (fun j => if j = i then u else v j) (fun j => if j = i then true else f j) k = (lay ops a0 v f k).put ((ops[i]?).bind (·.dst)) u
  | 0, _, h => by omega
  | k + 1, hk, h => by
    by_cases e : k = i
    · subst e
      rw [lay, lay, if_pos (by simp), if_pos rfl, hf, if_neg (by simp)]
      congr 1
      exact lay_same a0 _ fun j hj => by
        have : j ≠ k := by omega
        simp [this]
    · have ih := lay_set a0 (v := v) (u := u) hf hd k (by omega) (by omega)
      rw [lay, lay, ih]
      simp only [if_neg e]
      cases hfk : f k with
      | false => simp
      | true =>
        simp only [if_true]
        exact Act.put_comm _ u (v k) fun d hd' => hd k (by omega) e d hd'
theorem execOp_agree {o : Oper} (hs : ∀ cs b, o.op ≠ .select cs b) {a b : Act} (h : ∀ t, t ∈ o.looksAt ops → a.tmps[t]? = b.tmps[t]?) : execOp a.eval o = execOp b.eval o :=
  execOp_congr o hs fun x hx => by
    cases x with
    | tmp t =>
      have := h t (List.mem_append_left _ (List.mem_filterMap.2 ⟨.tmp t, by simpa using hx, rfl⟩))
      simp [Act.eval, this]
    | _ => rfl
theorem wanted_agree {o : Oper} {a b : Act} (h : ∀ t, t ∈ o.looksAt ops → a.tmps[t]? = b.tmps[t]?) : Region.wanted o (yielded ops a.tmps) = Region.wanted o (yielded ops b.tmps) := by
  unfold Region.wanted
  cases hg : o.guard with
  | none => rfl
  | some gw =>
    obtain ⟨g, want⟩ := gw
    have hy : yielded ops a.tmps g = yielded ops b.tmps g := by
      unfold yielded
      cases ht : (ops[g]?).bind (·.dst) with
      | none => rfl
      | some t =>
        have := h t (by simp [Oper.looksAt, hg, ht])
        simp [this]
    simp only [hy]
theorem put_same {a b : Act} (hs : a.tmps.size = b.tmps.size) {d : Option Tmp} {u u' : Value} (h : b.put d u = b.put d u') : a.put d u = a.put d u' := by
  cases d with
  | none => rfl
  | some d =>
    simp only [Act.put, Act.mk.injEq, and_true] at h ⊢
    by_cases hd : d < b.tmps.size
    · have := congrArg (·[d]?) h
      simp [hd] at this
      rw [this]
    · have h1 : a.tmps.size ≤ d := by rw [hs]; exact Nat.le_of_not_lt hd
      rw [Array.setIfInBounds_eq_of_size_le h1, Array.setIfInBounds_eq_of_size_le h1]
theorem step_at {o : Oper} (hs : ∀ cs b, o.op ≠ .select cs b) {a b : Act} {w : World} {V : Law} (hsz : a.tmps.size = b.tmps.size) (h : ∀ t, t ∈ o.looksAt ops → a.tmps[t]? = b.tmps[t]?) (hb : StepR P G V ops o b w) : StepR P G V ops o a w := by
  unfold StepR at *
  rw [wanted_agree h]
  split
  · rename_i hw
    rw [if_pos hw] at hb
    intro K hK
    have h1 := hb (fun a' w' => ∃ u, a' = b.put o.dst u ∧ V u w' ∧ G w w') fun u w' hv hg => ⟨u, rfl, hv, hg⟩
    unfold Oper.wp at *
    rw [execOp_agree hs h]
    have fin : ∀ u w', (∃ u', b.put o.dst u = b.put o.dst u' ∧ V u' w' ∧ G w w') → K (a.put o.dst u) w' := fun u w' ⟨u', e, hv, hg⟩ => by
      rw [put_same hsz e]; exact hK u' w' hv hg
    generalize (execOp b.eval o).run P w = r at *
    cases r with
    | ok n w' =>
      cases n <;> simp only [Oper.upon] at h1 ⊢
      case value u => exact fin u w' h1
      case skip => exact fin undef w' h1
      case defer d =>
        obtain ⟨u', e, _⟩ := h1
        exfalso
        have e2 := congrArg (fun (q : Act) => q.defers.length) e
        cases hd : o.dst <;> simp [hd, Act.put] at e2
      case enter f args =>
        refine Calls.mono h1 fun e w'' he => ?_
        cases e with
        | returned u => exact fin u w'' he
        | panicked c => exact he.elim
        | outgrown => exact absurd he (by simp [LetsOut])
      case row row args => exact Rows.mono h1 fun u w'' he => fin u w'' he
    | halt x w' => cases x <;> simp only [Oper.upon] at h1
  · rename_i hw
    rwa [if_neg hw] at hb
/-- what the Bool says -/
theorem relB_spec {m : Nat} (h : relB md ops m = true) :
    (∀ i, i < m → ∀ j, j < m → i ≠ j → ∀ d, (ops[i]?).bind (·.dst) = some d → (ops[j]?).bind (·.dst) ≠ some d) ∧
    (∀ i, i < m → ∀ o, ops[i]? = some o → ∀ j, j < m → ∀ d, (ops[j]?).bind (·.dst) = some d → d ∈ o.looksAt ops → i = j ∨ (j < i ∧ j ∈ afters md ops i) ∨ (i < j ∧ i ∈ afters md ops j)) ∧
    (∀ j, j < ops.size → ∀ i ∈ afters md ops j, i < j) := by
  simp only [relB, Bool.and_eq_true, List.all_eq_true, List.mem_range, Bool.or_eq_true, decide_eq_true_eq] at h
  obtain ⟨⟨h1, h2⟩, h3⟩ := h
  refine ⟨fun i hi j hj hne d hd => ?_, fun i hi o ho j hj d hd hl => ?_, h3⟩
  · have := h1 i hi j hj
    rw [hd] at this
    rcases this with e | e
    · exact absurd e hne
    · simpa using e
  · have := h2 i hi
    rw [ho] at this
    simp only [List.all_eq_true, List.mem_range] at this
    have := this j hj
    rw [hd] at this
    simp only [Bool.or_eq_true, Bool.and_eq_true, decide_eq_true_eq, Bool.not_eq_true', List.contains_iff_mem] at this
    rcases this with ((e | e) | e) | e
    · rw [List.contains_iff_mem.2 hl] at e; cases e
    · exact .inl e
    · exact .inr (.inl e)
    · exact .inr (.inr e)
theorem any_of_rel {m : Nat} {a0 : Act} {Q : Exit → Act → World → Prop} {V : Nat → Law} {x : Nat → (Nat → Value) → Value} {B : Nat → (Nat → Value) → Act} (hGr : ∀ w, G w w) (hG : ∀ w w' w'', G w w' → G w' w'' → G w w'')
    (hR : relB md ops m = true) (hm : m ≤ ops.size) (hsel : Region.noSelect ops = true)
    (hT : ∀ listed : Array Bool, listed.size = ops.size → closedB md ops listed = true → (∃ j, j < m ∧ listed.getD j false = false) → ∀ i ∈ Region.ready md ops listed, i < m)
    (hmono : ∀ j, j < m → ∀ u w w', V j u w → G w w' → V j u w') (hB0 : ∀ v, B 0 v = a0)
    (hB : ∀ i o, i < m → ops[i]? = some o → (∀ v, B (i + 1) v = (B i v).put o.dst (x i v)) ∧ (∀ v w, V i (v i) w → x i v = v i) ∧ (∀ v w, G W0 w → (∀ j, (deps ops i).contains j = true → V j (v j) w) → StepR P G (V i) ops o (B i v) w))
    (hE : ∀ v w, G W0 w → (∀ j, j < m → V j (v j) w) → wpAny P md ops Q (ops.size - m) (upTo m ops.size) (B m v) w) :
    ∀ (fuel : Nat) (listed : Array Bool) (v : Nat → Value) (w : World), G W0 w → listed.size = ops.size → closedB md ops listed = true → (∀ i, m ≤ i → i < ops.size → listed.getD i true = false) → listed.toList.count false = fuel →
      (∀ j, j < m → listed.getD j false = true → V j (v j) w) → wpAny P md ops Q fuel listed (lay ops a0 v (fun j => listed.getD j false) m) w := by
  obtain ⟨hR1, hR2, hR3⟩ := relB_spec hR
  have hget : ∀ i, i < m → ∃ o, ops[i]? = some o := fun i hi => ⟨_, Array.getElem?_eq_getElem (by omega)⟩
  have hBlay : ∀ v i, i ≤ m → B i v = lay ops a0 (fun j => x j v) (fun j => decide (j < i)) m := fun v i hi => by
    have h1 : ∀ k, k ≤ i → B k v = lay ops a0 (fun j => x j v) (fun j => decide (j < i)) k := fun k => by
      induction k with
      | zero => intro _; exact hB0 v
      | succ k ih =>
        intro hk
        obtain ⟨o, ho⟩ := hget k (by omega)
        rw [(hB k o (by omega) ho).1 v, ih (by omega), lay, if_pos (by simp; omega), ho]
        rfl
    have h2 : ∀ k, lay ops a0 (fun j => x j v) (fun j => decide (j < i)) (i + k) = lay ops a0 (fun j => x j v) (fun j => decide (j < i)) i := fun k => by
      induction k with
      | zero => rfl
      | succ k ih => rw [← Nat.add_assoc, lay, if_neg (by simp), ih]
    rw [h1 i (Nat.le_refl _), ← h2 (m - i), show i + (m - i) = m from by omega]
  intro fuel
  induction fuel with
  | zero =>
    intro listed v w hw hs hc hz hn hV
    have hall : ∀ i, i < ops.size → listed.getD i false = true := fun i hi => by
      have hlt : i < listed.size := by omega
      have : listed[i] ≠ false := fun e => (List.count_eq_zero.1 hn) (e ▸ (by simp))
      simpa [Array.getD, hlt] using this
    have hmn : m = ops.size := by
      rcases Nat.lt_or_ge m ops.size with c | c
      · have h1 := hz m (Nat.le_refl _) c
        have h2 := hall m c
        have hlt : m < listed.size := by omega
        simp [Array.getD, hlt] at h1 h2
        rw [h1] at h2; cases h2
      · omega
    have he : listed = upTo m ops.size := upTo_of hs hm (fun i hi => hall i (by omega)) hz
    have ha : lay ops a0 v (fun j => listed.getD j false) m = B m v := by
      rw [hBlay v m (Nat.le_refl _)]
      refine lay_same a0 m fun j hj => ⟨by rw [hall j (by omega)]; simp [hj], fun _ => ?_⟩
      obtain ⟨o, ho⟩ := hget j hj
      exact ((hB j o hj ho).2.1 v w (hV j hj (hall j (by omega)))).symm
    have := hE v w hw fun j hj => hV j hj (hall j (by omega))
    rw [show ops.size - m = 0 from by omega, ← he, ← ha] at this
    exact this
  | succ fuel ih =>
    intro listed v w hw hs hc hz hn hV
    by_cases hall : ∀ i, i < m → listed.getD i false = true
    · have he := upTo_of hs hm hall hz
      have hf : fuel + 1 = ops.size - m := by
        rw [← hn, he, upTo]
        simp [List.count_replicate]
      have ha : lay ops a0 v (fun j => listed.getD j false) m = B m v := by
        rw [hBlay v m (Nat.le_refl _)]
        refine lay_same a0 m fun j hj => ⟨by rw [hall j hj]; simp [hj], fun _ => ?_⟩
        obtain ⟨o, ho⟩ := hget j hj
        exact ((hB j o hj ho).2.1 v w (hV j hj (hall j hj))).symm
      have := hE v w hw fun j hj => hV j hj (hall j hj)
      rw [ha, he, hf]
      exact this
    · simp only [Classical.not_forall] at hall
      obtain ⟨j0, hj0, hl0⟩ := hall
      have hl0' : listed.getD j0 false = false := by simpa using hl0
      have hlj : listed.getD j0 true = false := by
        have hlt : j0 < listed.size := by omega
        simp [Array.getD, hlt] at hl0' ⊢
        exact hl0'
      refine ⟨fun h0 => absurd h0 (ready_some hs hR3 j0 j0 (Nat.le_refl _) (by omega) hlj), fun i hi => ?_⟩
      have him : i < m := hT listed hs hc ⟨j0, hj0, hl0'⟩ i hi
      obtain ⟨hfi, o, ho, _⟩ := mem_ready.1 hi
      obtain ⟨_, _, hst⟩ := hB i o him ho
      have hfi' : listed.getD i false = false := by
        have hlt : i < listed.size := by omega
        simp [Array.getD, hlt] at hfi ⊢
        exact hfi
      have haft := ready_afters hi
      -- what it looks at
      have hdeps : ∀ j, (deps ops i).contains j = true → j < m ∧ listed.getD j false = true := fun j hj => by
        unfold deps at hj
        rw [ho] at hj
        have := List.mem_filter.1 (List.contains_iff_mem.1 hj)
        have hji := List.mem_range.1 this.1
        have h2 := this.2
        cases hd : (ops[j]?).bind (·.dst) with
        | none => rw [hd] at h2; simp at h2
        | some d =>
          rw [hd] at h2
          simp only [List.contains_iff_mem] at h2
          rcases hR2 i him o ho j (by omega) d hd h2 with e | e | e
          · omega
          · exact ⟨by omega, haft j e.2⟩
          · omega
      have hagree : ∀ t, t ∈ o.looksAt ops → (lay ops a0 v (fun j => listed.getD j false) m).tmps[t]? = (B i v).tmps[t]? := fun t ht => by
        rw [hBlay v i (by omega)]
        refine lay_agree a0 t m fun j hj hd => ?_
        rcases hR2 i him o ho j hj t hd ht with e | e | e
        · subst e
          exact ⟨by rw [hfi']; simp, fun q => by rw [hfi'] at q; cases q⟩
        · have hq := haft j e.2
          refine ⟨by rw [hq]; simp [e.1], fun _ => ?_⟩
          obtain ⟨oj, hoj⟩ := hget j hj
          exact ((hB j oj hj hoj).2.1 v w (hV j hj hq)).symm
        · have hnj : listed.getD j false = false := by
            cases hq : listed.getD j false with
            | false => rfl
            | true =>
              have := afters_listed hc hq i e.2
              rw [hfi'] at this; cases this
          exact ⟨by rw [hnj]; simp; omega, fun q => by rw [hnj] at q; cases q⟩
      have hstep := step_at (fun cs b => Region.noSelect_spec hsel i o cs b ho) (by rw [lay_size, hBlay v i (by omega), lay_size]) hagree (hst v w hw fun j hj => hV j (hdeps j hj).1 (hdeps j hj).2)
      have hnext : ∀ u w', V i u w' → G w w' → wpAny P md ops Q fuel (listed.setIfInBounds i true) ((lay ops a0 v (fun j => listed.getD j false) m).put o.dst u) w' := fun u w' hu hg => by
        have hset := lay_set a0 (v := v) (f := fun j => listed.getD j false) (u := u) hfi' (fun j hj hne d hd => hR1 i him j hj (Ne.symm hne) d hd) m (Nat.le_refl _) him
        rw [ho] at hset
        rw [show o.dst = (some o).bind (·.dst) from rfl, ← hset]
        have hfun : (fun j => if j = i then true else listed.getD j false) = fun j => (listed.setIfInBounds i true).getD j false := funext fun j => by
          by_cases e : j = i
          · subst e
            have hlt : j < listed.size := by omega
            simp [Array.getD, hlt]
          · rw [if_neg e, getD_set_other false e]
        rw [hfun]
        refine ih (listed.setIfInBounds i true) _ w' (hG _ _ _ hw hg) (by rw [Array.size_setIfInBounds]; exact hs) (closed_set hc hi) (fun p hp hp2 => ?_) (count_set (by omega) hfi hn) fun j hj hl => ?_
        · rw [getD_set_other true (by omega)]; exact hz p hp hp2
        · by_cases e : j = i
          · subst e; rw [if_pos rfl]; exact hu
          · rw [if_neg e]
            rw [getD_set_other false e] at hl
            exact hmono j hj _ _ _ (hV j hj hl) hg
      unfold wpOp
      rw [ho]
      dsimp only
      unfold StepR at hstep
      split
      · rename_i hwt
        rw [if_pos hwt] at hstep
        have h1 := hstep _ hnext
        refine .inl ?_
        unfold Oper.wp at *
        generalize (execOp (lay ops a0 v (fun j => listed.getD j false) m).eval o).run P w = r at *
        cases r with
        | ok n w' =>
          cases n <;> simp only [Oper.upon] at h1 ⊢ <;> first | exact h1 | (refine Calls.mono h1 fun e w'' he => ?_; cases e <;> first | exact he | exact he.elim | exact absurd he (by simp [LetsOut]))
        | halt y w' => cases y <;> simp only [Oper.upon] at h1
      · rename_i hwt
        rw [if_neg hwt] at hstep
        exact hnext undef w hstep (hGr w)
theorem step_run {V : Law} {o : Oper} {a : Act} {w : World} (hwt : Region.wanted o (yielded ops a.tmps) = true) (u : Value) (w' : World) (h : (execOp a.eval o).run P w = .ok (.value u) w') (hv : V u w') (hg : G w w') : StepR P G V ops o a w := by
  unfold StepR
  rw [if_pos hwt]
  intro K hK
  unfold Oper.wp
  rw [h]
  exact hK u w' hv hg
theorem step_call {V : Law} {o : Oper} {a : Act} {w : World} (hwt : Region.wanted o (yielded ops a.tmps) = true) (f : FuncId) (args : Array Value) (h : (execOp a.eval o).run P w = .ok (.enter f args) w)
    (hc : Calls P f args w fun e w'' => ∃ u, e = .returned u ∧ V u w'' ∧ G w w'') : StepR P G V ops o a w := by
  unfold StepR
  rw [if_pos hwt]
  intro K hK
  unfold Oper.wp
  rw [h]
  refine Calls.mono hc fun e w'' ⟨u, he, hv, hg⟩ => ?_
  subst he
  exact hK u w'' hv hg
theorem step_skip {V : Law} {o : Oper} {a : Act} {w : World} (hwt : Region.wanted o (yielded ops a.tmps) = false) (hv : V undef w) : StepR P G V ops o a w := by
  unfold StepR
  rw [if_neg (by rw [hwt]; simp)]
  exact hv
theorem closed_none (md : Region.Mode) (ops : Array Oper) (n : Nat) : closedB md ops (Array.replicate n false) = true := by
  unfold closedB
  rw [List.all_eq_true]
  intro j _
  have : (Array.replicate n false).getD j false = false := by
    by_cases h : j < n
    · simp [Array.getD, h]
    · simp [Array.getD, h]
  rw [this]
  rfl
theorem wp_region_rel_tail {id : Nat} {Q : Exit → Act → World → Prop} {a : Act} {w : World} {l : List Oper} (m k : Nat) (hGr : ∀ w, G w w) (hG : ∀ w w' w'', G w w' → G w' w'' → G w w'') (hm : P.follows .mixedOrders = true)
    (hml : m ≤ l.length) (hsel : Region.noSelect l.toArray = true) (hR : relB .any l.toArray m = true) (hT : m = l.length ∨ tailB .any l.toArray m k = true) (hw : G W0 w.drew)
    (h : walkR P G W0 l.toArray (fun env A => ∀ v w, G W0 w → (∀ j, j < m → env j (v j) w) → wpAny P .any l.toArray Q (l.length - m) (upTo m l.length) (A v) w) (l.take m) 0 (fun _ _ _ => True) (fun _ => a)) :
    (Code.region id l.toArray true).wp P Q a w := by
  have hlen : (l.take m).length = m := by rw [List.length_take]; omega
  obtain ⟨V, x, B, _, h2, h3, h4, h5⟩ := walkR_spec (P := P) (ops := l.toArray) (l.take m) 0 _ _ (fun j hj => by
    rw [hlen] at hj
    rw [List.getElem?_take, if_pos hj, Nat.zero_add]
    simp) h
  rw [hlen, Nat.zero_add] at h5
  simp only [hlen, Nat.zero_add, Nat.zero_le, true_implies] at h2 h4
  refine wp_region_any hm ?_
  have hlay : ∀ k, lay l.toArray a (fun _ => undef) (fun j => (Array.replicate l.toArray.size false).getD j false) k = a := fun k => by
    induction k with
    | zero => rfl
    | succ k ih =>
      rw [lay, if_neg, ih]
      by_cases h : k < l.length
      · simp [h]
      · simp [h]
  have hTT : ∀ listed : Array Bool, listed.size = l.toArray.size → closedB .any l.toArray listed = true → (∃ j, j < m ∧ listed.getD j false = false) → ∀ i ∈ Region.ready .any l.toArray listed, i < m := by
    intro listed hs hc ⟨j, hj, hlj⟩ i hi
    obtain ⟨hfi, o, ho, _⟩ := mem_ready.1 hi
    have hsz : i < l.toArray.size := (Array.getElem?_eq_some_iff.1 ho).1
    rcases hT with e | hT
    · rw [e]; simpa using hsz
    · simp only [tailB, Bool.and_eq_true, List.all_eq_true, List.mem_range, Bool.or_eq_true, decide_eq_true_eq, List.contains_iff_mem] at hT
      obtain ⟨hT1, hT2, _⟩ := hT
      rcases Nat.lt_or_ge i m with c | c
      · exact c
      · exfalso
        have hall : ∀ q, listed.getD q false = true → ∀ y ∈ afters .any l.toArray q, listed.getD y false = true := fun q hq => afters_listed hc hq
        have hmj : m ∈ clos .any l.toArray k (afters .any l.toArray i) → listed.getD m false = true := clos_listed hc k _ (ready_afters hi) m
        have fin : listed.getD m false = true → False := fun hq => by
          have := clos_listed hc k _ (hall m hq) j (hT1 j hj)
          rw [hlj] at this; cases this
        rcases Nat.lt_or_ge m i with d | d
        · rcases hT2 i hsz with e | e
          · omega
          · exact fin (hmj e)
        · obtain rfl : i = m := by omega
          have := clos_listed hc k _ (ready_afters hi) j (hT1 j hj)
          rw [hlj] at this; cases this
  have := any_of_rel (P := P) (md := .any) (ops := l.toArray) (G := G) (W0 := W0) (m := m) (a0 := a) (Q := Q) (V := V) (x := x) (B := B) hGr hG hR (by simpa using hml) hsel hTT h2 (fun v => by rw [h3]) h4 (by simpa using h5)
    l.toArray.size (Array.replicate l.toArray.size false) (fun _ => undef) w.drew hw (by simp) (closed_none _ _ _) (fun i _ hi => by have hi' : i < l.length := by simpa using hi
                                                                                                                                     simp [Array.getD, hi']) (by simp) (fun j _ hl => by
      exfalso
      by_cases hj : j < l.length
      · simp [hj] at hl
      · simp [hj] at hl)
  rw [hlay] at this
  exact this
/-- the world has grown: all that was there is as it was -/
def Gw (w w' : World) : Prop := Below w.heap.size w w'
theorem Gw.refl (w : World) : Gw w w := Below.refl _ w
theorem Gw.trans (w w' w'' : World) (h : Gw w w') (k : Gw w' w'') : Gw w w'' := Below.trans h (Below.mono k h.size)
/-- the same, all operations -/
theorem wp_region_rel {id : Nat} {Q : Exit → Act → World → Prop} {a : Act} {w : World} {l : List Oper} (hGr : ∀ w, G w w) (hG : ∀ w w' w'', G w w' → G w' w'' → G w w'') (hm : P.follows .mixedOrders = true)
    (hsel : Region.noSelect l.toArray = true) (hR : relB .any l.toArray l.length = true) (hw : G W0 w.drew)
    (h : walkR P G W0 l.toArray (fun env A => ∀ v w, G W0 w → (∀ j, j < l.length → env j (v j) w) → Q .normal (A v) w) l 0 (fun _ _ _ => True) (fun _ => a)) :
    (Code.region id l.toArray true).wp P Q a w := by
  refine wp_region_rel_tail (G := G) (W0 := W0) l.length 0 hGr hG hm (Nat.le_refl _) hsel hR (.inl rfl) hw ?_
  rw [List.take_length, Nat.sub_self]
  have key : ∀ (l' : List Oper) (k : Nat) (env : Nat → Law) (A : (Nat → Value) → Act), walkR P G W0 l.toArray (fun env A => ∀ v w, G W0 w → (∀ j, j < l.length → env j (v j) w) → Q .normal (A v) w) l' k env A →
      walkR P G W0 l.toArray (fun env A => ∀ v w, G W0 w → (∀ j, j < l.length → env j (v j) w) → wpAny P .any l.toArray Q 0 (upTo l.length l.length) (A v) w) l' k env A := by
    intro l'
    induction l' with
    | nil =>
      intro k env A h v w hw hv
      refine ⟨?_, h v w hw hv⟩
      cases hr : Region.ready .any l.toArray (upTo l.length l.length) with
      | nil => rfl
      | cons i r =>
        exfalso
        have hi : i ∈ Region.ready .any l.toArray (upTo l.length l.length) := by rw [hr]; exact List.mem_cons_self
        have := (mem_ready.1 hi).1
        by_cases hlt : i < l.length
        · simp [upTo, Array.getD, hlt] at this
        · simp [upTo, Array.getD, hlt] at this
    | cons o l' ih =>
      intro k env A h
      rcases h with ⟨c, h1, h2⟩ | ⟨V, h1, h2, h3⟩
      · exact .inl ⟨c, h1, ih _ _ _ h2⟩
      · exact .inr ⟨V, h1, h2, ih _ _ _ h3⟩
  exact key _ _ _ _ h
end
end Go.Proofs.YtcgecafajgoeeaaDoor
