/-
  A loop over a function that keeps variables of its own in memory: what is kept, the contract of such a function, and the loop over it.
-/
import Derived.RangeFuncNested
import Derived.RangeFuncBound
import Derived.RangeFuncLeaves
import Derived.WalkKit
namespace Go.Proofs.Ytdalpicpkandcab
open Go.RowKit

/-- every block that was there, and of which p holds, is as it was -/
structure Kept (p : Nat → Prop) (A B : World) : Prop where
  os : B.os = A.os
  tape : B.tape = A.tape
  output : B.output = A.output
  size : A.heap.size ≤ B.heap.size
  block : ∀ k, k < A.heap.size → p k → B.heap[k]? = A.heap[k]?

theorem Kept.refl (p : Nat → Prop) (A : World) : Kept p A A := ⟨rfl, rfl, rfl, Nat.le_refl _, fun _ _ _ => rfl⟩
theorem Kept.trans {p : Nat → Prop} {A B C : World} (h : Kept p A B) (k : Kept p B C) : Kept p A C :=
  ⟨k.os.trans h.os, k.tape.trans h.tape, k.output.trans h.output, Nat.le_trans h.size k.size, fun i hi hp => (k.block i (Nat.lt_of_lt_of_le hi h.size) hp).trans (h.block i hi hp)⟩
theorem Kept.mono {p q : Nat → Prop} {A B : World} (h : Kept p A B) (hpq : ∀ k, q k → p k) : Kept q A B :=
  ⟨h.os, h.tape, h.output, h.size, fun k hk hq => h.block k hk (hpq k hq)⟩
theorem Kept.of_below {p : Nat → Prop} {A B : World} (h : Below A.heap.size A B) : Kept p A B := ⟨h.os, h.tape, h.output, h.size, fun k hk _ => h.block k hk⟩
theorem Kept.of_below_at {p : Nat → Prop} {n : Nat} {A B : World} (h : Below n A B) (hp : ∀ k, p k → k < n) : Kept p A B := ⟨h.os, h.tape, h.output, h.size, fun k _ hk => h.block k (hp k hk)⟩
theorem Kept.below {p : Nat → Prop} {A B : World} (h : Kept p A B) {n : Nat} (hn : n ≤ A.heap.size) (hp : ∀ k, k < n → p k) : Below n A B :=
  ⟨h.os, h.tape, h.output, h.size, fun k hk => h.block k (by omega) (hp k hk)⟩
theorem Kept.alloc {p : Nat → Prop} {A B : World} (h : Kept p A B) (o : Obj) : Kept p A (B.alloc o) :=
  h.trans (Kept.of_below ((Below.refl _ B).alloc (Nat.le_refl _) o))
theorem Kept.drew {p : Nat → Prop} {A B : World} (h : Kept p A B) : Kept p A B.drew := ⟨h.os, h.tape, h.output, h.size, h.block⟩
theorem Kept.setCell {p : Nat → Prop} {A B : World} (h : Kept p A B) {a : Addr} (ha : ¬ p a.block) (v : Value) : Kept p A (B.setCell a v) :=
  h.trans ⟨rfl, rfl, rfl, by simp [World.setCell], fun k _ hk => Below.heap_setCell _ _ _ _ (fun e => ha (by rw [← e]; exact hk))⟩
theorem Kept.putObj {p : Nat → Prop} {A B : World} (h : Kept p A B) {r : Nat} (hr : ¬ p r) (o : Obj) : Kept p A (B.putObj r o) :=
  h.trans ⟨rfl, rfl, rfl, by simp, fun k _ hk => World.putObj_heap_other (fun e => hr (by rw [← e]; exact hk))⟩
theorem Kept.grown {p : Nat → Prop} {A B C : World} {row : Option Nat} (h : Kept p A B) (hg : B.grownBy C row) (hr : ∀ k, row = some k → ¬ p k) : Kept p A C :=
  h.trans ⟨hg.os, hg.tape, hg.output, hg.size, fun k hk hp => hg.block k hk (fun e => hr k e.symm hp)⟩
theorem Kept.obj {p : Nat → Prop} {A B : World} (h : Kept p A B) {k : Nat} {o : Obj} (hk : p k) (ho : A.heap[k]? = some o) : B.heap[k]? = some o :=
  (h.block k (Array.getElem?_eq_some_iff.1 ho).1 hk).trans ho
theorem Kept.boxed {p : Nat → Prop} {A B : World} (h : Kept p A B) {k : Nat} {t : TypeId} {v : Value} (hk : p k) (ho : Boxed A k t v) : Boxed B k t v := h.obj hk ho

theorem RoundIn.anyDepth' {m m' : Nat} {P : Program} {l : Nat} {f : FuncId} {tmps : Array Value} {assign body : Code} {w : World} {R : Ending → World → Prop}
    (h : RoundIn Fence.wide m P l f tmps assign body w R) : RoundIn Fence.wide m' P l f tmps assign body w R := ⟨h.1, fun c cs _ => h.2 c cs (room_wide _)⟩
theorem YieldAt.anyDepth' {m : Nat} (m' : Nat) {P : Program} {l : Nat} {args : Array Value} {W : World} {R : Ending → World → Prop} (h : YieldAt Fence.wide m P l args W R) : YieldAt Fence.wide m' P l args W R := by
  obtain ⟨fn, tmps, assign, body, hy, hR⟩ := h
  exact ⟨fn, tmps, assign, body, hy, RoundIn.anyDepth' hR⟩

/-- Entered at W, the function g (with lb captured) tells xs in their order, till it is told to stop. It has d blocks of its own, the first that it lays; a round must keep these, and those of Kp. -/
def Tells {α : Type} (P : Program) (g : Nat) (lb : Array Value) (encs : α → Array Value) (xs : List α) (d : Nat) (Kp : Nat → Prop) (W : World) : Prop :=
  ∀ (l : Nat) (J Jx : List α → World → Prop),
    (∀ pre A B, W.heap.size ≤ A.heap.size → J pre A → Kept (fun k => ¬ (W.heap.size ≤ k ∧ k < W.heap.size + d)) A B → J pre B) →
    (∀ pre A B, W.heap.size ≤ A.heap.size → Jx pre A → Kept (fun k => ¬ (W.heap.size ≤ k ∧ k < W.heap.size + d)) A B → Jx pre B) →
    (∀ pre x W1, W.heap.size + d ≤ W1.heap.size → pre ++ [x] <+: xs → J pre W1 → YieldAt Fence.wide 0 P l (encs x) W1 fun e W' =>
      Kept (fun k => Kp k ∨ (W.heap.size ≤ k ∧ k < W.heap.size + d)) W1 W' ∧ ((e = .returned (.bool true) ∧ J (pre ++ [x]) W') ∨ (e = .returned (.bool false) ∧ Jx (pre ++ [x]) W'))) →
    J [] W →
    Calls P g (#[.func (.yield l) #[] #[]] ++ lb) W fun e W' => (∃ v, e = .returned v) ∧ W.heap.size ≤ W'.heap.size ∧ (J xs W' ∨ ∃ pre, pre <+: xs ∧ Jx pre W')

/-- how a round's body may be left -/
def rfPost {α : Type} (Kk : Nat → Prop) (I : List α → World → Prop) (Ix : Code → List α → World → Prop) (xs : List α) (W : World) : Exit → Act → World → Prop
  | .normal, _, W' => Kept Kk W W' ∧ I xs W'
  | .ret, _, W' => Kept Kk W W' ∧ Ix .ret xs W'
  | .exit id, _, W' => Kept Kk W W' ∧ Ix (.exit id) xs W'
  | _, _, _ => False

/-- the loop over such a function -/
theorem rf_outer {α : Type} {P : Program} {n m : Nat} {g : Operand} {ps : Array Tmp} {assign body : Code} {Q : Exit → Act → World → Prop} {a : Act} {w : World} {gf : Nat} {lb : Array Value}
    (hg : a.eval g = .func (.func gf) #[] lb) (eg : ∀ args w, (callFunc gf args).run P w = .ok (.enter gf args) w)
    {encs : α → Array Value} {xs : List α} {d : Nat} {Kp : Nat → Prop}
    (hseq : ∀ W1, Below w.heap.size w W1 → W1.heap.size = w.heap.size + 2 → Tells P gf lb encs xs d Kp W1)
    (hK : ¬ Kp (w.heap.size + 1)) (hps : ∀ x, (encs x).size = ps.size)
    (I : List α → World → Prop) (Ix : Code → List α → World → Prop)
    (hI : ∀ pre A B, w.heap.size ≤ A.heap.size → I pre A → Kept (fun k => k ≠ w.heap.size + 1 ∧ ¬ (w.heap.size + 2 ≤ k ∧ k < w.heap.size + 2 + d)) A B → I pre B)
    (hIx : ∀ c pre A B, w.heap.size ≤ A.heap.size → Ix c pre A → Kept (fun k => k ≠ w.heap.size + 1 ∧ ¬ (w.heap.size + 2 ≤ k ∧ k < w.heap.size + 2 + d)) A B → Ix c pre B)
    (h0 : I [] w) (a₁ : α → Act)
    (hassign : ∀ (l : Nat) (x : α) (W : World) (Kq : Act → World → Prop), Kq (a₁ x) W →
      assign.wpIn (Fence.wide.inRound l) m P (Exit.then Kq (fun _ _ _ => False)) { tmps := (ps.zip (encs x)).foldl (fun t (p, v) => t.setIfInBounds p v) a.tmps, defers := [] } W)
    (hbody : ∀ (l : Nat) (pre : List α) (x : α) (W : World), l = w.heap.size + 1 → w.heap.size + 2 + d ≤ W.heap.size → pre ++ [x] <+: xs → I pre W →
      body.wpIn (Fence.wide.inRound l) m P (rfPost (fun k => k = w.heap.size ∨ k = w.heap.size + 1 ∨ (Kp k ∨ (w.heap.size + 2 ≤ k ∧ k < w.heap.size + 2 + d))) I Ix (pre ++ [x]) W) (a₁ x) W)
    (hdone : ∀ (W : World), w.heap.size + 2 ≤ W.heap.size → I xs W → W.heap[w.heap.size]? = some (.deferred (some [])) → Q .normal { a with defers := { target := .collected w.heap.size, args := #[] } :: a.defers } W)
    (hstop : ∀ (c : Code) (pre : List α) (W : World), w.heap.size + 2 ≤ W.heap.size → pre <+: xs → Ix c pre W → W.heap[w.heap.size]? = some (.deferred (some [])) → c.wpIn Fence.wide n P Q { a with defers := { target := .collected w.heap.size, args := #[] } :: a.defers } W) :
    (Code.rangeFunc g ps assign body).wpIn Fence.wide n P Q a w := by
  have hK' : ¬ (Kp (w.heap.size + 1) ∨ (w.heap.size + 2 ≤ w.heap.size + 1 ∧ w.heap.size + 1 < w.heap.size + 2 + d)) := fun h => h.elim hK (by omega)
  refine wpIn_rangeFunc fun fn hfn => ?_
  obtain ⟨rc, hrc⟩ : ∃ rc : LoopState → Option Code → Loop, rc = fun st pe => { state := st, pending := pe, fn, tmps := a.tmps, params := ps, assign, body, defers := w.heap.size } := ⟨_, rfl⟩
  have hsz : ((w.alloc (.deferred (some []))).alloc (.loop (rc .ready none))).heap.size = w.heap.size + 2 := by simp
  have hbl : Below w.heap.size w ((w.alloc (.deferred (some []))).alloc (.loop (rc .ready none))) := ((Below.refl _ w).alloc (Nat.le_refl _) _).alloc (by simp) _
  have hl1 : ((w.alloc (.deferred (some []))).alloc (.loop (rc .ready none))).heap[w.heap.size + 1]? = some (.loop (rc .ready none)) := by
    have := World.alloc_heap_new (w.alloc (.deferred (some []))) (.loop (rc .ready none)); rwa [World.size_alloc] at this
  have hk1 : ((w.alloc (.deferred (some []))).alloc (.loop (rc .ready none))).heap[w.heap.size]? = some (.deferred (some [])) :=
    (Below.heap_alloc _ _ _ (by simp)).trans (World.alloc_heap_new w _)
  have hin := run_enterLoop_outer (P := P) (w := w) fn a.tmps ps assign body
  rw [show ({ state := .ready, pending := none, fn, tmps := a.tmps, params := ps, assign, body, defers := w.heap.size } : Loop) = rc .ready none from by rw [hrc]] at hin
  generalize (w.alloc (.deferred (some []))).alloc (.loop (rc .ready none)) = W1 at hsz hbl hl1 hk1 hin
  have hst : ∀ {p : Nat → Prop} {A B : World} {k : Nat} {o : Obj}, Kept p A B → p k → A.heap[k]? = some o → B.heap[k]? = some o := fun h hp ho => h.obj hp ho
  have hx1 : ∀ k, k < w.heap.size + 2 → ¬ (w.heap.size + 2 ≤ k ∧ k < w.heap.size + 2 + d) := fun k hk hx => by omega
  refine ⟨w.heap.size + 1, [{ target := .collected w.heap.size, args := #[] }], W1, { target := .fn (.func gf) lb, args := #[.func (.yield (w.heap.size + 1)) #[] #[]] }, W1, gf,
    #[.func (.yield (w.heap.size + 1)) #[] #[]] ++ lb, W1, hin, ?_, fun _ _ => trivial, ?_, fun h => by simp [Fence.wide] at h, callsIn_wide.2 ?_⟩
  · simp only [resolve, hg]
    simp [go_sem]
  · simp [invoke, go_sem, eg]
  have hT := hseq W1 hbl hsz
  unfold Tells at hT
  rw [hsz] at hT
  refine (hT (w.heap.size + 1)
    (fun pre W => I pre W ∧ W.heap[w.heap.size + 1]? = some (.loop (rc .ready none)) ∧ W.heap[w.heap.size]? = some (.deferred (some [])))
    (fun pre W => ∃ c, Ix c pre W ∧ W.heap[w.heap.size + 1]? = some (.loop (rc .done (some c))) ∧ W.heap[w.heap.size]? = some (.deferred (some [])))
    ?_ ?_ ?_ ?_).mono ?_
  · rintro pre A B hA ⟨hi, hl, hk⟩ hkp
    exact ⟨hI pre A B (by omega) hi (hkp.mono fun k h => h.2), hst hkp (hx1 _ (by omega)) hl, hst hkp (hx1 _ (by omega)) hk⟩
  · rintro pre A B hA ⟨c, hi, hl, hk⟩ hkp
    exact ⟨c, hIx c pre A B (by omega) hi (hkp.mono fun k h => h.2), hst hkp (hx1 _ (by omega)) hl, hst hkp (hx1 _ (by omega)) hk⟩
  · -- one round
    rintro pre x W hW hpre ⟨hi, hl, hk⟩
    have hlt : w.heap.size + 1 < W.heap.size := (Array.getElem?_eq_some_iff.1 hl).1
    have hy := run_yield (P := P) (args := encs x) hl (by rw [hrc]; exact hps x)
    rw [hrc] at hy
    refine ⟨fn, _, assign, body, hy, RoundIn.anyDepth' (roundIn_of_wpIn (n := m) trivial (hassign _ x W _ ?_))⟩
    clear hy
    refine ⟨_, run_beginRound hl (by rw [hrc]), ?_⟩
    have hl2 : (W.putObj (w.heap.size + 1) (.loop { rc .ready none with state := .busy })).heap[w.heap.size + 1]? = some (.loop { rc .ready none with state := .busy }) := World.putObj_heap_same hlt
    have hk2 : (W.putObj (w.heap.size + 1) (.loop { rc .ready none with state := .busy })).heap[w.heap.size]? = some (.deferred (some [])) := (World.putObj_heap_other (by omega)).trans hk
    have hkk : Kept (fun k => Kp k ∨ (w.heap.size + 2 ≤ k ∧ k < w.heap.size + 2 + d)) W (W.putObj (w.heap.size + 1) (.loop { rc .ready none with state := .busy })) := (Kept.refl _ _).putObj hK' _
    have hi2 := hI pre _ (W.putObj (w.heap.size + 1) (.loop { rc .ready none with state := .busy })) (by omega) hi ((Kept.refl _ _).putObj (fun h => h.1 rfl) _)
    have hs2 : w.heap.size + 2 + d ≤ (W.putObj (w.heap.size + 1) (.loop { rc .ready none with state := .busy })).heap.size := by rw [World.putObj_size]; exact hW
    generalize W.putObj (w.heap.size + 1) (.loop { rc .ready none with state := .busy }) = W2 at hl2 hk2 hkk hi2 hs2
    refine wpIn_mono (hbody _ pre x W2 rfl hs2 hpre hi2) ?_
    have fin : ∀ (jump : Option Code) (W3 : World), Kept (fun k => k = w.heap.size ∨ k = w.heap.size + 1 ∨ (Kp k ∨ (w.heap.size + 2 ≤ k ∧ k < w.heap.size + 2 + d))) W2 W3 →
        (Instr.endRound (w.heap.size + 1) jump).run P W3 = .ok (.bool jump.isNone) (W3.putObj (w.heap.size + 1) (.loop (rc (if jump.isNone then .ready else .done) jump))) ∧
        w.heap.size ≤ W3.heap.size ∧
        Kept (fun k => Kp k ∨ (w.heap.size + 2 ≤ k ∧ k < w.heap.size + 2 + d)) W (W3.putObj (w.heap.size + 1) (.loop (rc (if jump.isNone then .ready else .done) jump))) ∧
        Kept (fun k => k ≠ w.heap.size + 1 ∧ ¬ (w.heap.size + 2 ≤ k ∧ k < w.heap.size + 2 + d)) W3 (W3.putObj (w.heap.size + 1) (.loop (rc (if jump.isNone then .ready else .done) jump))) ∧
        (W3.putObj (w.heap.size + 1) (.loop (rc (if jump.isNone then .ready else .done) jump))).heap[w.heap.size + 1]? = some (.loop (rc (if jump.isNone then .ready else .done) jump)) ∧
        (W3.putObj (w.heap.size + 1) (.loop (rc (if jump.isNone then .ready else .done) jump))).heap[w.heap.size]? = some (.deferred (some [])) := fun jump W3 h3 => by
      have hl3 := h3.obj (.inr (.inl rfl)) hl2
      have hr := run_endRound (P := P) jump hl3
      have hs3 := h3.size
      rw [hrc] at hr ⊢
      exact ⟨hr, by omega, hkk.trans ((h3.mono fun k hk => .inr (.inr hk)).putObj hK' _), (Kept.refl _ _).putObj (fun h => h.1 rfl) _, World.putObj_heap_same (Array.getElem?_eq_some_iff.1 hl3).1, (World.putObj_heap_other (by omega)).trans (h3.obj (.inl rfl) hk2)⟩
    rintro e a3 W3 hp
    cases e with
    | normal =>
      obtain ⟨h3, hi3⟩ := hp
      obtain ⟨hr, hs3, hkp, hkx, hl4, hk4⟩ := fin none W3 h3
      exact ⟨_, _, hr, hkp, .inl ⟨rfl, hI _ _ _ hs3 hi3 hkx, hl4, hk4⟩⟩
    | ret =>
      obtain ⟨h3, hi3⟩ := hp
      obtain ⟨hr, hs3, hkp, hkx, hl4, hk4⟩ := fin (some .ret) W3 h3
      exact ⟨_, _, hr, hkp, .inr ⟨rfl, .ret, hIx _ _ _ _ hs3 hi3 hkx, hl4, hk4⟩⟩
    | exit id =>
      obtain ⟨h3, hi3⟩ := hp
      obtain ⟨hr, hs3, hkp, hkx, hl4, hk4⟩ := fin (some (.exit id)) W3 h3
      exact ⟨_, _, hr, hkp, .inr ⟨rfl, .exit id, hIx _ _ _ _ hs3 hi3 hkx, hl4, hk4⟩⟩
    | goto t => exact hp.elim
    | panic ch => exact hp.elim
    | outgrown => exact hp.elim
  · exact ⟨hI [] w W1 (Nat.le_refl _) h0 (Kept.of_below hbl), hl1, hk1⟩
  · -- behind it
    rintro e W2 ⟨⟨v, rfl⟩, hs2, (⟨hi, hl, hk⟩ | ⟨pre, hpre, c, hi, hl, hk⟩)⟩
    · exact ⟨none, _, by have := run_endLoop (P := P) hl (by rw [hrc]; simp); rw [hrc] at this; exact this,
        hdone _ (by rw [World.putObj_size]; exact hs2) (hI _ _ _ (by omega) hi ((Kept.refl _ _).putObj (fun h => h.1 rfl) _)) ((World.putObj_heap_other (by omega)).trans hk)⟩
    · exact ⟨some c, _, by have := run_endLoop (P := P) hl (by rw [hrc]; simp); rw [hrc] at this; exact this,
        hstop c pre _ (by rw [World.putObj_size]; exact hs2) hpre (hIx c _ _ _ (by omega) hi ((Kept.refl _ _).putObj (fun h => h.1 rfl) _)) ((World.putObj_heap_other (by omega)).trans hk)⟩
end Go.Proofs.Ytdalpicpkandcab
