/-
  As RelReg, and besides: of two operations that make memory the one that comes up later makes it anew: what it makes is apart from what was there.
-/
import Derived.Test.YtfcnlfblfennaaaDoorRelReg
namespace Go.Proofs.YtfcnlfblfennaaaDoor
open Go.RowKit

/-- what is new about a value made in this world -/
abbrev New := World → Value → Prop
def updN (env : Nat → New) (k : Nat) (F : New) : Nat → New := fun j => if j = k then F else env j
/-- one operation: what it leaves is as V says, and new as F says; the world has grown -/
def StepN (P : Program) (G : World → World → Prop) (V : Law) (F : New) (ops : Array Oper) (o : Oper) (a : Act) (w : World) : Prop :=
  if Region.wanted o (yielded ops a.tmps) then ∀ K : Act → World → Prop, (∀ u w', V u w' → G w w' → F w u → K (a.put o.dst u) w') → o.wp P a w K (fun _ _ _ => False) else V undef w ∧ F w undef
def walkN (P : Program) (G : World → World → Prop) (W0 : World) (ops : Array Oper) (End : (Nat → Law) → (Nat → New) → ((Nat → Value) → Act) → Prop) : List Oper → Nat → (Nat → Law) → (Nat → New) → ((Nat → Value) → Act) → Prop
  | [], _, env, fs, A => End env fs A
  | o :: l, k, env, fs, A =>
    (∃ c, (∀ v w, G W0 w → (∀ j, (deps ops k).contains j = true → env j (v j) w) → StepN P G (fun u _ => u = c) (fun _ _ => True) ops o (A v) w) ∧ walkN P G W0 ops End l (k + 1) (upd env k fun u _ => u = c) (updN fs k fun _ _ => True) (fun v => (A v).put o.dst c)) ∨
    (∃ (V : Law) (F : New), (∀ u w w', V u w → G w w' → V u w') ∧ (∀ v w, G W0 w → (∀ j, (deps ops k).contains j = true → env j (v j) w) → StepN P G V F ops o (A v) w) ∧ walkN P G W0 ops End l (k + 1) (upd env k V) (updN fs k F) (fun v => (A v).put o.dst (v k)))
/-- of two the one came up later -/
def Later (G : World → World → Prop) (V : Nat → Law) (F : Nat → New) (v : Nat → Value) (w : World) (i j : Nat) : Prop := (∃ w1, G w1 w ∧ F i w1 (v i) ∧ V j (v j) w1) ∨ (∃ w1, G w1 w ∧ F j w1 (v j) ∧ V i (v i) w1)
section
variable {P : Program} {md : Region.Mode} {ops : Array Oper} {G : World → World → Prop} {W0 : World} {End : (Nat → Law) → (Nat → New) → ((Nat → Value) → Act) → Prop}
theorem walkN_spec : ∀ (l : List Oper) (k : Nat) (env : Nat → Law) (fs : Nat → New) (A : (Nat → Value) → Act), (∀ j, j < l.length → l[j]? = ops[k + j]?) → walkN P G W0 ops End l k env fs A →
    ∃ (V : Nat → Law) (F : Nat → New) (x : Nat → (Nat → Value) → Value) (B : Nat → (Nat → Value) → Act), (∀ j, j < k → V j = env j ∧ F j = fs j) ∧ (∀ j, k ≤ j → j < k + l.length → ∀ u w w', V j u w → G w w' → V j u w') ∧ B k = A ∧
      (∀ i o, k ≤ i → i < k + l.length → ops[i]? = some o → (∀ v, B (i + 1) v = (B i v).put o.dst (x i v)) ∧ (∀ v w, V i (v i) w → x i v = v i) ∧
        (∀ v w, G W0 w → (∀ j, (deps ops i).contains j = true → V j (v j) w) → StepN P G (V i) (F i) ops o (B i v) w)) ∧ End V F (B (k + l.length))
  | [], k, env, fs, A, _, h => ⟨env, fs, fun _ _ => undef, fun _ => A, fun _ _ => ⟨rfl, rfl⟩, fun j h1 h2 => by simp at h2; omega, rfl, fun i o h1 h2 => by simp at h2; omega, h⟩
  | o :: l, k, env, fs, A, hl, h => by
    have h0 : ops[k]? = some o := by simpa using (hl 0 (by simp)).symm
    have hl' : ∀ j, j < l.length → l[j]? = ops[k + 1 + j]? := fun j hj => by
      have := hl (j + 1) (by simpa using hj)
      rw [show k + 1 + j = k + (j + 1) from by omega, ← this]
      rfl
    have hdep : ∀ i j, (deps ops i).contains j = true → j < i := fun i j hj => by
      unfold deps at hj
      cases ho : ops[i]? with
      | none => rw [ho] at hj; simp at hj
      | some o' =>
        rw [ho] at hj
        have := List.mem_filter.1 (List.contains_iff_mem.1 hj)
        exact List.mem_range.1 this.1
    have go : ∀ (U : Law) (N : New) (y : (Nat → Value) → Value), (∀ u w w', U u w → G w w' → U u w') → (∀ v w, U (v k) w → y v = v k) →
        (∀ v w, G W0 w → (∀ j, (deps ops k).contains j = true → env j (v j) w) → StepN P G U N ops o (A v) w) → walkN P G W0 ops End l (k + 1) (upd env k U) (updN fs k N) (fun v => (A v).put o.dst (y v)) →
        ∃ (V : Nat → Law) (F : Nat → New) (x : Nat → (Nat → Value) → Value) (B : Nat → (Nat → Value) → Act), (∀ j, j < k → V j = env j ∧ F j = fs j) ∧ (∀ j, k ≤ j → j < k + (o :: l).length → ∀ u w w', V j u w → G w w' → V j u w') ∧ B k = A ∧
          (∀ i o, k ≤ i → i < k + (o :: l).length → ops[i]? = some o → (∀ v, B (i + 1) v = (B i v).put o.dst (x i v)) ∧ (∀ v w, V i (v i) w → x i v = v i) ∧
            (∀ v w, G W0 w → (∀ j, (deps ops i).contains j = true → V j (v j) w) → StepN P G (V i) (F i) ops o (B i v) w)) ∧ End V F (B (k + (o :: l).length)) := by
      intro U N y hU hy hstep hw
      obtain ⟨V, F, x, B, h1, h2, h3, h4, h5⟩ := walkN_spec l (k + 1) _ _ _ hl' hw
      have hVk : V k = U := by rw [(h1 k (by omega)).1]; simp [upd]
      have hFk : F k = N := by rw [(h1 k (by omega)).2]; simp [updN]
      have hVj : ∀ j, j < k → V j = env j := fun j hj => by rw [(h1 j (by omega)).1]; simp [upd, show j ≠ k from by omega]
      have hFj : ∀ j, j < k → F j = fs j := fun j hj => by rw [(h1 j (by omega)).2]; simp [updN, show j ≠ k from by omega]
      refine ⟨V, F, fun i => if i = k then y else x i, fun i => if i = k then A else B i, fun j hj => ⟨hVj j hj, hFj j hj⟩, fun j a b => ?_, by simp, fun i o' a b ho' => ?_, ?_⟩
      · by_cases e : j = k
        · subst e; rw [hVk]; exact hU
        · exact h2 j (by omega) (by rw [List.length_cons] at b; omega)
      · by_cases e : i = k
        · subst e
          obtain rfl : o = o' := by rw [h0] at ho'; exact Option.some.inj ho'
          refine ⟨fun v => ?_, fun v w hv => ?_, fun v w hw' hd => ?_⟩
          · dsimp only
            rw [if_neg (by omega), if_pos rfl, if_pos rfl, h3]
          · dsimp only
            rw [hVk] at hv; rw [if_pos rfl]; exact hy v w hv
          · dsimp only
            rw [hVk, hFk, if_pos rfl]
            refine hstep v w hw' fun j hj => ?_
            have := hd j hj
            rwa [hVj j (hdep i j hj)] at this
        · obtain ⟨q1, q2, q3⟩ := h4 i o' (by omega) (by rw [List.length_cons] at b; omega) ho'
          refine ⟨fun v => ?_, fun v w hv => ?_, fun v w hw' hd => ?_⟩
          · dsimp only
            rw [if_neg (by omega), if_neg e, if_neg e]; exact q1 v
          · dsimp only
            rw [if_neg e]; exact q2 v w hv
          · dsimp only
            rw [if_neg e]; exact q3 v w hw' hd
      · dsimp only
        rw [if_neg (by rw [List.length_cons]; omega), List.length_cons, show k + (l.length + 1) = k + 1 + l.length from by omega]
        exact h5
    rcases h with ⟨c, hs, hw⟩ | ⟨U, N, hU, hs, hw⟩
    · exact go (fun u _ => u = c) (fun _ _ => True) (fun _ => c) (fun _ _ _ e _ => e) (fun _ _ e => e.symm) hs hw
    · exact go U N (fun v => v k) hU (fun _ _ _ => rfl) hs hw
theorem stepN_at {o : Oper} (hs : ∀ cs b, o.op ≠ .select cs b) {a b : Act} {w : World} {V : Law} {F : New} (hsz : a.tmps.size = b.tmps.size) (h : ∀ t, t ∈ o.looksAt ops → a.tmps[t]? = b.tmps[t]?) (hb : StepN P G V F ops o b w) : StepN P G V F ops o a w := by
  unfold StepN at *
  rw [wanted_agree h]
  split
  · rename_i hw
    rw [if_pos hw] at hb
    intro K hK
    have h1 := hb (fun a' w' => ∃ u, a' = b.put o.dst u ∧ V u w' ∧ G w w' ∧ F w u) fun u w' hv hg hf => ⟨u, rfl, hv, hg, hf⟩
    unfold Oper.wp at *
    rw [execOp_agree hs h]
    have fin : ∀ u w', (∃ u', b.put o.dst u = b.put o.dst u' ∧ V u' w' ∧ G w w' ∧ F w u') → K (a.put o.dst u) w' := fun u w' ⟨u', e, hv, hg, hf⟩ => by
      rw [put_same hsz e]; exact hK u' w' hv hg hf
    generalize (execOp b.eval o).run P w = r at *
    cases r with
    | ok n w' =>
      cases n <;> simp only [Oper.upon] at h1 ⊢
      case value u => exact fin u w' h1
      case skip => exact fin undef w' h1
      case defer d =>
        obtain ⟨u', e, _⟩ := h1
        exfalso
        have e2 := congrArg (fun (q : Act) => q.defers.length) e
        cases hd : o.dst <;> simp [hd, Act.put] at e2
      case enter f args =>
        refine Calls.mono h1 fun e w'' he => ?_
        cases e with
        | returned u => exact fin u w'' he
        | panicked c => exact he.elim
        | outgrown => exact absurd he (by simp [LetsOut])
      case row row args => exact Rows.mono h1 fun u w'' he => fin u w'' he
    | halt x w' => cases x <;> simp only [Oper.upon] at h1
  · rename_i hw
    rwa [if_neg hw] at hb
theorem any_of_new {m : Nat} {a0 : Act} {Q : Exit → Act → World → Prop} {V : Nat → Law} {F : Nat → New} {x : Nat → (Nat → Value) → Value} {B : Nat → (Nat → Value) → Act} (hGr : ∀ w, G w w) (hG : ∀ w w' w'', G w w' → G w' w'' → G w w'')
    (hR : relB md ops m = true) (hm : m ≤ ops.size) (hsel : Region.noSelect ops = true)
    (hT : ∀ listed : Array Bool, listed.size = ops.size → closedB md ops listed = true → (∃ j, j < m ∧ listed.getD j false = false) → ∀ i ∈ Region.ready md ops listed, i < m)
    (hmono : ∀ j, j < m → ∀ u w w', V j u w → G w w' → V j u w') (hB0 : ∀ v, B 0 v = a0)
    (hB : ∀ i o, i < m → ops[i]? = some o → (∀ v, B (i + 1) v = (B i v).put o.dst (x i v)) ∧ (∀ v w, V i (v i) w → x i v = v i) ∧ (∀ v w, G W0 w → (∀ j, (deps ops i).contains j = true → V j (v j) w) → StepN P G (V i) (F i) ops o (B i v) w))
    (hE : ∀ v w, G W0 w → (∀ j, j < m → V j (v j) w) → (∀ i j, i < m → j < m → i ≠ j → Later G V F v w i j) → wpAny P md ops Q (ops.size - m) (upTo m ops.size) (B m v) w) :
    ∀ (fuel : Nat) (listed : Array Bool) (v : Nat → Value) (w : World), G W0 w → listed.size = ops.size → closedB md ops listed = true → (∀ i, m ≤ i → i < ops.size → listed.getD i true = false) → listed.toList.count false = fuel →
      (∀ j, j < m → listed.getD j false = true → V j (v j) w) → (∀ i j, i < m → j < m → i ≠ j → listed.getD i false = true → listed.getD j false = true → Later G V F v w i j) → wpAny P md ops Q fuel listed (lay ops a0 v (fun j => listed.getD j false) m) w := by
  obtain ⟨hR1, hR2, hR3⟩ := relB_spec hR
  have hget : ∀ i, i < m → ∃ o, ops[i]? = some o := fun i hi => ⟨_, Array.getElem?_eq_getElem (by omega)⟩
  have hBlay : ∀ v i, i ≤ m → B i v = lay ops a0 (fun j => x j v) (fun j => decide (j < i)) m := fun v i hi => by
    have h1 : ∀ k, k ≤ i → B k v = lay ops a0 (fun j => x j v) (fun j => decide (j < i)) k := fun k => by
      induction k with
      | zero => intro _; exact hB0 v
      | succ k ih =>
        intro hk
        obtain ⟨o, ho⟩ := hget k (by omega)
        rw [(hB k o (by omega) ho).1 v, ih (by omega), lay, if_pos (by simp; omega), ho]
        rfl
    have h2 : ∀ k, lay ops a0 (fun j => x j v) (fun j => decide (j < i)) (i + k) = lay ops a0 (fun j => x j v) (fun j => decide (j < i)) i := fun k => by
      induction k with
      | zero => rfl
      | succ k ih => rw [← Nat.add_assoc, lay, if_neg (by simp), ih]
    rw [h1 i (Nat.le_refl _), ← h2 (m - i), show i + (m - i) = m from by omega]
  intro fuel
  induction fuel with
  | zero =>
    intro listed v w hw hs hc hz hn hV hL
    have hall : ∀ i, i < ops.size → listed.getD i false = true := fun i hi => by
      have hlt : i < listed.size := by omega
      have : listed[i] ≠ false := fun e => (List.count_eq_zero.1 hn) (e ▸ (by simp))
      simpa [Array.getD, hlt] using this
    have hmn : m = ops.size := by
      rcases Nat.lt_or_ge m ops.size with c | c
      · have h1 := hz m (Nat.le_refl _) c
        have h2 := hall m c
        have hlt : m < listed.size := by omega
        simp [Array.getD, hlt] at h1 h2
        rw [h1] at h2; cases h2
      · omega
    have he : listed = upTo m ops.size := upTo_of hs hm (fun i hi => hall i (by omega)) hz
    have ha : lay ops a0 v (fun j => listed.getD j false) m = B m v := by
      rw [hBlay v m (Nat.le_refl _)]
      refine lay_same a0 m fun j hj => ⟨by rw [hall j (by omega)]; simp [hj], fun _ => ?_⟩
      obtain ⟨o, ho⟩ := hget j hj
      exact ((hB j o hj ho).2.1 v w (hV j hj (hall j (by omega)))).symm
    have := hE v w hw (fun j hj => hV j hj (hall j (by omega))) fun i j hi hj hne => hL i j hi hj hne (hall i (by omega)) (hall j (by omega))
    rw [show ops.size - m = 0 from by omega, ← he, ← ha] at this
    exact this
  | succ fuel ih =>
    intro listed v w hw hs hc hz hn hV hL
    by_cases hall : ∀ i, i < m → listed.getD i false = true
    · have he := upTo_of hs hm hall hz
      have hf : fuel + 1 = ops.size - m := by
        rw [← hn, he, upTo]
        simp [List.count_replicate]
      have ha : lay ops a0 v (fun j => listed.getD j false) m = B m v := by
        rw [hBlay v m (Nat.le_refl _)]
        refine lay_same a0 m fun j hj => ⟨by rw [hall j hj]; simp [hj], fun _ => ?_⟩
        obtain ⟨o, ho⟩ := hget j hj
        exact ((hB j o hj ho).2.1 v w (hV j hj (hall j hj))).symm
      have := hE v w hw (fun j hj => hV j hj (hall j hj)) fun i j hi hj hne => hL i j hi hj hne (hall i hi) (hall j hj)
      rw [ha, he, hf]
      exact this
    · simp only [Classical.not_forall] at hall
      obtain ⟨j0, hj0, hl0⟩ := hall
      have hl0' : listed.getD j0 false = false := by simpa using hl0
      have hlj : listed.getD j0 true = false := by
        have hlt : j0 < listed.size := by omega
        simp [Array.getD, hlt] at hl0' ⊢
        exact hl0'
      refine ⟨fun h0 => absurd h0 (ready_some hs hR3 j0 j0 (Nat.le_refl _) (by omega) hlj), fun i hi => ?_⟩
      have him : i < m := hT listed hs hc ⟨j0, hj0, hl0'⟩ i hi
      obtain ⟨hfi, o, ho, _⟩ := mem_ready.1 hi
      obtain ⟨_, _, hst⟩ := hB i o him ho
      have hfi' : listed.getD i false = false := by
        have hlt : i < listed.size := by omega
        simp [Array.getD, hlt] at hfi ⊢
        exact hfi
      have haft := ready_afters hi
      -- what it looks at
      have hdeps : ∀ j, (deps ops i).contains j = true → j < m ∧ listed.getD j false = true := fun j hj => by
        unfold deps at hj
        rw [ho] at hj
        have := List.mem_filter.1 (List.contains_iff_mem.1 hj)
        have hji := List.mem_range.1 this.1
        have h2 := this.2
        cases hd : (ops[j]?).bind (·.dst) with
        | none => rw [hd] at h2; simp at h2
        | some d =>
          rw [hd] at h2
          simp only [List.contains_iff_mem] at h2
          rcases hR2 i him o ho j (by omega) d hd h2 with e | e | e
          · omega
          · exact ⟨by omega, haft j e.2⟩
          · omega
      have hagree : ∀ t, t ∈ o.looksAt ops → (lay ops a0 v (fun j => listed.getD j false) m).tmps[t]? = (B i v).tmps[t]? := fun t ht => by
        rw [hBlay v i (by omega)]
        refine lay_agree a0 t m fun j hj hd => ?_
        rcases hR2 i him o ho j hj t hd ht with e | e | e
        · subst e
          exact ⟨by rw [hfi']; simp, fun q => by rw [hfi'] at q; cases q⟩
        · have hq := haft j e.2
          refine ⟨by rw [hq]; simp [e.1], fun _ => ?_⟩
          obtain ⟨oj, hoj⟩ := hget j hj
          exact ((hB j oj hj hoj).2.1 v w (hV j hj hq)).symm
        · have hnj : listed.getD j false = false := by
            cases hq : listed.getD j false with
            | false => rfl
            | true =>
              have := afters_listed hc hq i e.2
              rw [hfi'] at this; cases this
          exact ⟨by rw [hnj]; simp; omega, fun q => by rw [hnj] at q; cases q⟩
      have hstep := stepN_at (fun cs b => Region.noSelect_spec hsel i o cs b ho) (by rw [lay_size, hBlay v i (by omega), lay_size]) hagree (hst v w hw fun j hj => hV j (hdeps j hj).1 (hdeps j hj).2)
      have hnext : ∀ u w', V i u w' → G w w' → F i w u → wpAny P md ops Q fuel (listed.setIfInBounds i true) ((lay ops a0 v (fun j => listed.getD j false) m).put o.dst u) w' := fun u w' hu hg hfu => by
        have hset := lay_set a0 (v := v) (f := fun j => listed.getD j false) (u := u) hfi' (fun j hj hne d hd => hR1 i him j hj (Ne.symm hne) d hd) m (Nat.le_refl _) him
        rw [ho] at hset
        rw [show o.dst = (some o).bind (·.dst) from rfl, ← hset]
        have hfun : (fun j => if j = i then true else listed.getD j false) = fun j => (listed.setIfInBounds i true).getD j false := funext fun j => by
          by_cases e : j = i
          · subst e
            have hlt : j < listed.size := by omega
            simp [Array.getD, hlt]
          · rw [if_neg e, getD_set_other false e]
        rw [hfun]
        refine ih (listed.setIfInBounds i true) _ w' (hG _ _ _ hw hg) (by rw [Array.size_setIfInBounds]; exact hs) (closed_set hc hi) (fun p hp hp2 => ?_) (count_set (by omega) hfi hn) (fun j hj hl => ?_) fun p q hp hq hne hlp hlq => ?_
        · rw [getD_set_other true (by omega)]; exact hz p hp hp2
        · by_cases e : j = i
          · subst e; rw [if_pos rfl]; exact hu
          · rw [if_neg e]
            rw [getD_set_other false e] at hl
            exact hmono j hj _ _ _ (hV j hj hl) hg
        · by_cases ep : p = i
          · have eq : q ≠ i := fun e => hne (ep.trans e.symm)
            rw [getD_set_other false eq] at hlq
            refine .inl ⟨w, hg, ?_, ?_⟩
            · dsimp only; rw [if_pos ep, ep]; exact hfu
            · dsimp only; rw [if_neg eq]; exact hV q hq hlq
          · rw [getD_set_other false ep] at hlp
            by_cases eq : q = i
            · refine .inr ⟨w, hg, ?_, ?_⟩
              · dsimp only; rw [if_pos eq, eq]; exact hfu
              · dsimp only; rw [if_neg ep]; exact hV p hp hlp
            · rw [getD_set_other false eq] at hlq
              rcases hL p q hp hq hne hlp hlq with ⟨w1, a1, a2, a3⟩ | ⟨w1, a1, a2, a3⟩
              · exact .inl ⟨w1, hG _ _ _ a1 hg, by dsimp only; rw [if_neg ep]; exact a2, by dsimp only; rw [if_neg eq]; exact a3⟩
              · exact .inr ⟨w1, hG _ _ _ a1 hg, by dsimp only; rw [if_neg eq]; exact a2, by dsimp only; rw [if_neg ep]; exact a3⟩
      unfold wpOp
      rw [ho]
      dsimp only
      unfold StepN at hstep
      split
      · rename_i hwt
        rw [if_pos hwt] at hstep
        have h1 := hstep _ hnext
        refine .inl ?_
        unfold Oper.wp at *
        generalize (execOp (lay ops a0 v (fun j => listed.getD j false) m).eval o).run P w = r at *
        cases r with
        | ok n w' =>
          cases n <;> simp only [Oper.upon] at h1 ⊢ <;> first | exact h1 | (refine Calls.mono h1 fun e w'' he => ?_; cases e <;> first | exact he | exact he.elim | exact absurd he (by simp [LetsOut]))
        | halt y w' => cases y <;> simp only [Oper.upon] at h1
      · rename_i hwt
        rw [if_neg hwt] at hstep
        exact hnext undef w hstep.1 (hGr w) hstep.2
theorem stepN_of {V : Law} {F : New} {o : Oper} {a : Act} {w : World} (hF : ∀ u, F w u) (h : StepR P G V ops o a w) : StepN P G V F ops o a w := by
  unfold StepR at h
  unfold StepN
  split
  · rename_i hw
    rw [if_pos hw] at h
    exact fun K hK => h K fun u w' hv hg => hK u w' hv hg (hF u)
  · rename_i hw
    rw [if_neg hw] at h
    exact ⟨h, hF _⟩
theorem stepN_run {V : Law} {F : New} {o : Oper} {a : Act} {w : World} (hwt : Region.wanted o (yielded ops a.tmps) = true) (u : Value) (w' : World) (h : (execOp a.eval o).run P w = .ok (.value u) w') (hv : V u w') (hg : G w w') (hf : F w u) : StepN P G V F ops o a w := by
  unfold StepN
  rw [if_pos hwt]
  intro K hK
  unfold Oper.wp
  rw [h]
  exact hK u w' hv hg hf
theorem wp_region_new_tail {id : Nat} {Q : Exit → Act → World → Prop} {a : Act} {w : World} {l : List Oper} (m k : Nat) (hGr : ∀ w, G w w) (hG : ∀ w w' w'', G w w' → G w' w'' → G w w'') (hm : P.follows .mixedOrders = true)
    (hml : m ≤ l.length) (hsel : Region.noSelect l.toArray = true) (hR : relB .any l.toArray m = true) (hT : m = l.length ∨ tailB .any l.toArray m k = true) (hw : G W0 w.drew)
    (h : walkN P G W0 l.toArray (fun env fs A => ∀ v w, G W0 w → (∀ j, j < m → env j (v j) w) → (∀ i j, i < m → j < m → i ≠ j → Later G env fs v w i j) → wpAny P .any l.toArray Q (l.length - m) (upTo m l.length) (A v) w) (l.take m) 0 (fun _ _ _ => True) (fun _ _ _ => True) (fun _ => a)) :
    (Code.region id l.toArray true).wp P Q a w := by
  have hlen : (l.take m).length = m := by rw [List.length_take]; omega
  obtain ⟨V, F, x, B, _, h2, h3, h4, h5⟩ := walkN_spec (P := P) (ops := l.toArray) (l.take m) 0 _ _ _ (fun j hj => by
    rw [hlen] at hj
    rw [List.getElem?_take, if_pos hj, Nat.zero_add]
    simp) h
  rw [hlen, Nat.zero_add] at h5
  simp only [hlen, Nat.zero_add, Nat.zero_le, true_implies] at h2 h4
  refine wp_region_any hm ?_
  have hlay : ∀ k, lay l.toArray a (fun _ => undef) (fun j => (Array.replicate l.toArray.size false).getD j false) k = a := fun k => by
    induction k with
    | zero => rfl
    | succ k ih =>
      rw [lay, if_neg, ih]
      by_cases h : k < l.length
      · simp [h]
      · simp [h]
  have hTT : ∀ listed : Array Bool, listed.size = l.toArray.size → closedB .any l.toArray listed = true → (∃ j, j < m ∧ listed.getD j false = false) → ∀ i ∈ Region.ready .any l.toArray listed, i < m := by
    intro listed hs hc ⟨j, hj, hlj⟩ i hi
    obtain ⟨hfi, o, ho, _⟩ := mem_ready.1 hi
    have hsz : i < l.toArray.size := (Array.getElem?_eq_some_iff.1 ho).1
    rcases hT with e | hT
    · rw [e]; simpa using hsz
    · simp only [tailB, Bool.and_eq_true, List.all_eq_true, List.mem_range, Bool.or_eq_true, decide_eq_true_eq, List.contains_iff_mem] at hT
      obtain ⟨hT1, hT2, _⟩ := hT
      rcases Nat.lt_or_ge i m with c | c
      · exact c
      · exfalso
        have hall : ∀ q, listed.getD q false = true → ∀ y ∈ afters .any l.toArray q, listed.getD y false = true := fun q hq => afters_listed hc hq
        have hmj : m ∈ clos .any l.toArray k (afters .any l.toArray i) → listed.getD m false = true := clos_listed hc k _ (ready_afters hi) m
        have fin : listed.getD m false = true → False := fun hq => by
          have := clos_listed hc k _ (hall m hq) j (hT1 j hj)
          rw [hlj] at this; cases this
        rcases Nat.lt_or_ge m i with d | d
        · rcases hT2 i hsz with e | e
          · omega
          · exact fin (hmj e)
        · obtain rfl : i = m := by omega
          have := clos_listed hc k _ (ready_afters hi) j (hT1 j hj)
          rw [hlj] at this; cases this
  have := any_of_new (P := P) (md := .any) (ops := l.toArray) (G := G) (W0 := W0) (m := m) (a0 := a) (Q := Q) (V := V) (F := F) (x := x) (B := B) hGr hG hR (by simpa using hml) hsel hTT h2 (fun v => by rw [h3]) h4 (by simpa using h5)
    l.toArray.size (Array.replicate l.toArray.size false) (fun _ => undef) w.drew hw (by simp) (closed_none _ _ _) (fun i _ hi => by have hi' : i < l.length := by simpa using hi
                                                                                                                                     simp [Array.getD, hi']) (by simp) (fun j _ hl => by
      exfalso
      by_cases hj : j < l.length
      · simp [hj] at hl
      · simp [hj] at hl) (fun i j _ _ _ hl => by
      exfalso
      by_cases hj : i < l.length
      · simp [hj] at hl
      · simp [hj] at hl)
  rw [hlay] at this
  exact this
end
end Go.Proofs.YtfcnlfblfennaaaDoor
