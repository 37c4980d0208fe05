/-
  What stays: every block of which something holds.
  A loop over a function that keeps variables of its own in memory: what is kept, the contract of such a function, and the loop over it.
  What the functions tell that ruled of package chunk answers.
  What Cut of package lumref answers.
  A region that draws its order, whose operations but the last only read (their callees leave what was there), and whose last one waits for all others.
  What the functions tell that pieces of package chunk answers.
  What Cut of package chunk answers.
  What Fixed of package chunk, and of package lumref, answers.
  P46 to P48 (no Go in it): the path of the directory that has a thing, its last name; how many names a path has; Check by the directories that came.
  Rows of one's own that stay; texts as they lie in memory.
  P47: what WayOK and cut of package walk answer.
  P47: what lumref's PiecesOf answers.
  Rows of things of k cells each as they lie in memory; an ID.
  P28 to P30 (no Go in it): what is packed is listed, found and split as it was; a changed byte is told; what is told has its digest.
  Rows of blobs and of a pack's list as they lie in memory.
  Rows of things of k cells each, and an ID, handed in and read as data: opened, and shut.
  Blobs, and a row of a pack's list, handed in and read as data: opened, and shut.
  A map whose keys are IDs: what is there, what is not.
  A map of blobs by their IDs: what put leaves, whatever was there.
  What product and Step of the document's answer (package lumref) answer.
  What Step and Undo of package mix answer.
  What digits of the document's answer (package lumref) answers.
  The library's contracts at this program: strings_Repeat (laid by the guide's own tools, written out in plain words).
  What wide of the document's answer (package lumref) answers: the eight digits of a number.
  What Narrow of the document's answer (package lumref) answers.
  What readBlock, digest, Sum and Narrow of package mix answer.
  What ID of the document's answer (package lumref) answers.
  What ID of package mix answers.
  When two IDs are equal.
  When two blobs, two rows of a pack's list, two IDs are equal.
  What isKind, ID and alike of package pack answer, and what the document's answer (package lumref) says of them.
  P47, P48: what put and get of walk's heap answer.
  Items of a world as they lie in memory.
  Rows of things that themselves have rows: what lies in memory, by a relation; what stays while rows of one type grow.
-/
import Derived.Below
import Derived.WalkKit
import Derived.RangeFuncNested
import Derived.RangeFuncBound
import Derived.RangeFuncLeaves
import Derived.Test.YtimdioacmojkeaaGreatDoorXWalkPlants0
import Derived.RangeFuncCalls
import Derived.Shelf.Abstract
import Derived.Shelf.RegionOpen
import Derived.OwnWalkIn
import Derived.TacticsInMore
import Derived.LoopNIn
import Derived.LoopIn
import Derived.OrdersIn
import Derived.ControlIn
import Derived.Maps.AppendAt
import Derived.Lib.LastIndexByte
import Derived.Lib.Strings
import Derived.Lib.Bytealg
import Derived.Test.YtimdioacmojkeaaGreatDoorProg
import Derived.OpenShut
import Derived.DataShut
import Derived.WideShapes
import Derived.Deep.Strs
import Derived.Lib.SmallJoins
import Derived.Deep.Slices
import Derived.SizedLaws
import Derived.WideKeyArr2
import Derived.DeepKeys4
import Derived.Maps.OwnSet
import Derived.WalkSpells
import Derived.WalkLawsBesides
import Derived.WalkSmall
import Derived.Deep.RegionWith
import Derived.Deep.QuietTactic
import Derived.BigQuiet
import Derived.Shelf.Strings.Repeat
import Derived.Laws.Cover3
import Derived.Stop.BytesEq
import Derived.Laws.StructEq
import Derived.OwnWalk
import Derived.Laws.AppendOwn

namespace Go.Proofs.YtimdioacmojkeaaGreatDoor
open Go.RowKit

/-- every block that was there, and of which p holds, is as it was -/
structure Kept (p : Nat → Prop) (A B : World) : Prop where
  os : B.os = A.os
  tape : B.tape = A.tape
  output : B.output = A.output
  size : A.heap.size ≤ B.heap.size
  block : ∀ k, k < A.heap.size → p k → B.heap[k]? = A.heap[k]?

theorem Kept.refl (p : Nat → Prop) (A : World) : Kept p A A := ⟨rfl, rfl, rfl, Nat.le_refl _, fun _ _ _ => rfl⟩
theorem Kept.trans {p : Nat → Prop} {A B C : World} (h : Kept p A B) (k : Kept p B C) : Kept p A C :=
  ⟨k.os.trans h.os, k.tape.trans h.tape, k.output.trans h.output, Nat.le_trans h.size k.size, fun i hi hp => (k.block i (Nat.lt_of_lt_of_le hi h.size) hp).trans (h.block i hi hp)⟩
theorem Kept.mono {p q : Nat → Prop} {A B : World} (h : Kept p A B) (hpq : ∀ k, q k → p k) : Kept q A B :=
  ⟨h.os, h.tape, h.output, h.size, fun k hk hq => h.block k hk (hpq k hq)⟩
theorem Kept.of_below {p : Nat → Prop} {A B : World} (h : Below A.heap.size A B) : Kept p A B := ⟨h.os, h.tape, h.output, h.size, fun k hk _ => h.block k hk⟩
theorem Kept.of_below_at {p : Nat → Prop} {n : Nat} {A B : World} (h : Below n A B) (hp : ∀ k, p k → k < n) : Kept p A B := ⟨h.os, h.tape, h.output, h.size, fun k _ hk => h.block k (hp k hk)⟩
theorem Kept.below {p : Nat → Prop} {A B : World} (h : Kept p A B) {n : Nat} (hn : n ≤ A.heap.size) (hp : ∀ k, k < n → p k) : Below n A B :=
  ⟨h.os, h.tape, h.output, h.size, fun k hk => h.block k (by omega) (hp k hk)⟩
theorem Kept.alloc {p : Nat → Prop} {A B : World} (h : Kept p A B) (o : Obj) : Kept p A (B.alloc o) :=
  h.trans (Kept.of_below ((Below.refl _ B).alloc (Nat.le_refl _) o))
theorem Kept.drew {p : Nat → Prop} {A B : World} (h : Kept p A B) : Kept p A B.drew := ⟨h.os, h.tape, h.output, h.size, h.block⟩
theorem Kept.setCell {p : Nat → Prop} {A B : World} (h : Kept p A B) {a : Addr} (ha : ¬ p a.block) (v : Value) : Kept p A (B.setCell a v) :=
  h.trans ⟨rfl, rfl, rfl, by simp [World.setCell], fun k _ hk => Below.heap_setCell _ _ _ _ (fun e => ha (by rw [← e]; exact hk))⟩
theorem Kept.grown {p : Nat → Prop} {A B C : World} {row : Option Nat} (h : Kept p A B) (hg : B.grownBy C row) (hr : ∀ k, row = some k → ¬ p k) : Kept p A C :=
  h.trans ⟨hg.os, hg.tape, hg.output, hg.size, fun k hk hp => hg.block k hk (fun e => hr k e.symm hp)⟩
theorem Kept.obj {p : Nat → Prop} {A B : World} (h : Kept p A B) {k : Nat} {o : Obj} (hk : p k) (ho : A.heap[k]? = some o) : B.heap[k]? = some o :=
  (h.block k (Array.getElem?_eq_some_iff.1 ho).1 hk).trans ho
end Go.Proofs.YtimdioacmojkeaaGreatDoor

namespace Go.Proofs.YtimdioacmojkeaaGreatDoor
open Go.RowKit

theorem Kept.putObj {p : Nat → Prop} {A B : World} (h : Kept p A B) {r : Nat} (hr : ¬ p r) (o : Obj) : Kept p A (B.putObj r o) :=
  h.trans ⟨rfl, rfl, rfl, by simp, fun k _ hk => World.putObj_heap_other (fun e => hr (by rw [← e]; exact hk))⟩
theorem Kept.boxed {p : Nat → Prop} {A B : World} (h : Kept p A B) {k : Nat} {t : TypeId} {v : Value} (hk : p k) (ho : Boxed A k t v) : Boxed B k t v := h.obj hk ho

theorem RoundIn.anyDepth' {m m' : Nat} {P : Program} {l : Nat} {f : FuncId} {tmps : Array Value} {assign body : Code} {w : World} {R : Ending → World → Prop}
    (h : RoundIn Fence.wide m P l f tmps assign body w R) : RoundIn Fence.wide m' P l f tmps assign body w R := ⟨h.1, fun c cs _ => h.2 c cs (room_wide _)⟩
theorem YieldAt.anyDepth' {m : Nat} (m' : Nat) {P : Program} {l : Nat} {args : Array Value} {W : World} {R : Ending → World → Prop} (h : YieldAt Fence.wide m P l args W R) : YieldAt Fence.wide m' P l args W R := by
  obtain ⟨fn, tmps, assign, body, hy, hR⟩ := h
  exact ⟨fn, tmps, assign, body, hy, RoundIn.anyDepth' hR⟩

/-- Entered at W, the function g (with lb captured) tells xs in their order, till it is told to stop. It has d blocks of its own, the first that it lays; a round must keep these, and those of Kp. -/
def Tells {α : Type} (P : Program) (g : Nat) (lb : Array Value) (encs : α → Array Value) (xs : List α) (d : Nat) (Kp : Nat → Prop) (W : World) : Prop :=
  ∀ (l : Nat) (J Jx : List α → World → Prop),
    (∀ pre A B, W.heap.size ≤ A.heap.size → J pre A → Kept (fun k => ¬ (W.heap.size ≤ k ∧ k < W.heap.size + d)) A B → J pre B) →
    (∀ pre A B, W.heap.size ≤ A.heap.size → Jx pre A → Kept (fun k => ¬ (W.heap.size ≤ k ∧ k < W.heap.size + d)) A B → Jx pre B) →
    (∀ pre x W1, W.heap.size + d ≤ W1.heap.size → pre ++ [x] <+: xs → J pre W1 → YieldAt Fence.wide 0 P l (encs x) W1 fun e W' =>
      Kept (fun k => Kp k ∨ (W.heap.size ≤ k ∧ k < W.heap.size + d)) W1 W' ∧ ((e = .returned (.bool true) ∧ J (pre ++ [x]) W') ∨ (e = .returned (.bool false) ∧ Jx (pre ++ [x]) W'))) →
    J [] W →
    Calls P g (#[.func (.yield l) #[] #[]] ++ lb) W fun e W' => (∃ v, e = .returned v) ∧ W.heap.size ≤ W'.heap.size ∧ (J xs W' ∨ ∃ pre, pre <+: xs ∧ Jx pre W')

/-- how a round's body may be left -/
def rfPost {α : Type} (Kk : Nat → Prop) (I : List α → World → Prop) (Ix : Code → List α → World → Prop) (xs : List α) (W : World) : Exit → Act → World → Prop
  | .normal, _, W' => Kept Kk W W' ∧ I xs W'
  | .ret, _, W' => Kept Kk W W' ∧ Ix .ret xs W'
  | .exit id, _, W' => Kept Kk W W' ∧ Ix (.exit id) xs W'
  | _, _, _ => False

/-- the loop over such a function -/
theorem rf_outer {α : Type} {P : Program} {n m : Nat} {g : Operand} {ps : Array Tmp} {assign body : Code} {Q : Exit → Act → World → Prop} {a : Act} {w : World} {gf : Nat} {lb : Array Value}
    (hg : a.eval g = .func (.func gf) #[] lb) (eg : ∀ args w, (callFunc gf args).run P w = .ok (.enter gf args) w)
    {encs : α → Array Value} {xs : List α} {d : Nat} {Kp : Nat → Prop}
    (hseq : ∀ W1, Below w.heap.size w W1 → W1.heap.size = w.heap.size + 2 → Tells P gf lb encs xs d Kp W1)
    (hK : ¬ Kp (w.heap.size + 1)) (hps : ∀ x, (encs x).size = ps.size)
    (I : List α → World → Prop) (Ix : Code → List α → World → Prop)
    (hI : ∀ pre A B, w.heap.size ≤ A.heap.size → I pre A → Kept (fun k => k ≠ w.heap.size + 1 ∧ ¬ (w.heap.size + 2 ≤ k ∧ k < w.heap.size + 2 + d)) A B → I pre B)
    (hIx : ∀ c pre A B, w.heap.size ≤ A.heap.size → Ix c pre A → Kept (fun k => k ≠ w.heap.size + 1 ∧ ¬ (w.heap.size + 2 ≤ k ∧ k < w.heap.size + 2 + d)) A B → Ix c pre B)
    (h0 : I [] w) (a₁ : α → Act)
    (hassign : ∀ (l : Nat) (x : α) (W : World) (Kq : Act → World → Prop), Kq (a₁ x) W →
      assign.wpIn (Fence.wide.inRound l) m P (Exit.then Kq (fun _ _ _ => False)) { tmps := (ps.zip (encs x)).foldl (fun t (p, v) => t.setIfInBounds p v) a.tmps, defers := [] } W)
    (hbody : ∀ (l : Nat) (pre : List α) (x : α) (W : World), l = w.heap.size + 1 → w.heap.size + 2 + d ≤ W.heap.size → pre ++ [x] <+: xs → I pre W →
      body.wpIn (Fence.wide.inRound l) m P (rfPost (fun k => k = w.heap.size ∨ k = w.heap.size + 1 ∨ (Kp k ∨ (w.heap.size + 2 ≤ k ∧ k < w.heap.size + 2 + d))) I Ix (pre ++ [x]) W) (a₁ x) W)
    (hdone : ∀ (W : World), w.heap.size + 2 ≤ W.heap.size → I xs W → W.heap[w.heap.size]? = some (.deferred (some [])) → Q .normal { a with defers := { target := .collected w.heap.size, args := #[] } :: a.defers } W)
    (hstop : ∀ (c : Code) (pre : List α) (W : World), w.heap.size + 2 ≤ W.heap.size → pre <+: xs → Ix c pre W → W.heap[w.heap.size]? = some (.deferred (some [])) → c.wpIn Fence.wide n P Q { a with defers := { target := .collected w.heap.size, args := #[] } :: a.defers } W) :
    (Code.rangeFunc g ps assign body).wpIn Fence.wide n P Q a w := by
  have hK' : ¬ (Kp (w.heap.size + 1) ∨ (w.heap.size + 2 ≤ w.heap.size + 1 ∧ w.heap.size + 1 < w.heap.size + 2 + d)) := fun h => h.elim hK (by omega)
  refine wpIn_rangeFunc fun fn hfn => ?_
  obtain ⟨rc, hrc⟩ : ∃ rc : LoopState → Option Code → Loop, rc = fun st pe => { state := st, pending := pe, fn, tmps := a.tmps, params := ps, assign, body, defers := w.heap.size } := ⟨_, rfl⟩
  have hsz : ((w.alloc (.deferred (some []))).alloc (.loop (rc .ready none))).heap.size = w.heap.size + 2 := by simp
  have hbl : Below w.heap.size w ((w.alloc (.deferred (some []))).alloc (.loop (rc .ready none))) := ((Below.refl _ w).alloc (Nat.le_refl _) _).alloc (by simp) _
  have hl1 : ((w.alloc (.deferred (some []))).alloc (.loop (rc .ready none))).heap[w.heap.size + 1]? = some (.loop (rc .ready none)) := by
    have := World.alloc_heap_new (w.alloc (.deferred (some []))) (.loop (rc .ready none)); rwa [World.size_alloc] at this
  have hk1 : ((w.alloc (.deferred (some []))).alloc (.loop (rc .ready none))).heap[w.heap.size]? = some (.deferred (some [])) :=
    (Below.heap_alloc _ _ _ (by simp)).trans (World.alloc_heap_new w _)
  have hin := run_enterLoop_outer (P := P) (w := w) fn a.tmps ps assign body
  rw [show ({ state := .ready, pending := none, fn, tmps := a.tmps, params := ps, assign, body, defers := w.heap.size } : Loop) = rc .ready none from by rw [hrc]] at hin
  generalize (w.alloc (.deferred (some []))).alloc (.loop (rc .ready none)) = W1 at hsz hbl hl1 hk1 hin
  have hst : ∀ {p : Nat → Prop} {A B : World} {k : Nat} {o : Obj}, Kept p A B → p k → A.heap[k]? = some o → B.heap[k]? = some o := fun h hp ho => h.obj hp ho
  have hx1 : ∀ k, k < w.heap.size + 2 → ¬ (w.heap.size + 2 ≤ k ∧ k < w.heap.size + 2 + d) := fun k hk hx => by omega
  refine ⟨w.heap.size + 1, [{ target := .collected w.heap.size, args := #[] }], W1, { target := .fn (.func gf) lb, args := #[.func (.yield (w.heap.size + 1)) #[] #[]] }, W1, gf,
    #[.func (.yield (w.heap.size + 1)) #[] #[]] ++ lb, W1, hin, ?_, fun _ _ => trivial, ?_, fun h => by simp [Fence.wide] at h, callsIn_wide.2 ?_⟩
  · simp only [resolve, hg]
    simp [go_sem]
  · simp [invoke, go_sem, eg]
  have hT := hseq W1 hbl hsz
  unfold Tells at hT
  rw [hsz] at hT
  refine (hT (w.heap.size + 1)
    (fun pre W => I pre W ∧ W.heap[w.heap.size + 1]? = some (.loop (rc .ready none)) ∧ W.heap[w.heap.size]? = some (.deferred (some [])))
    (fun pre W => ∃ c, Ix c pre W ∧ W.heap[w.heap.size + 1]? = some (.loop (rc .done (some c))) ∧ W.heap[w.heap.size]? = some (.deferred (some [])))
    ?_ ?_ ?_ ?_).mono ?_
  · rintro pre A B hA ⟨hi, hl, hk⟩ hkp
    exact ⟨hI pre A B (by omega) hi (hkp.mono fun k h => h.2), hst hkp (hx1 _ (by omega)) hl, hst hkp (hx1 _ (by omega)) hk⟩
  · rintro pre A B hA ⟨c, hi, hl, hk⟩ hkp
    exact ⟨c, hIx c pre A B (by omega) hi (hkp.mono fun k h => h.2), hst hkp (hx1 _ (by omega)) hl, hst hkp (hx1 _ (by omega)) hk⟩
  · -- one round
    rintro pre x W hW hpre ⟨hi, hl, hk⟩
    have hlt : w.heap.size + 1 < W.heap.size := (Array.getElem?_eq_some_iff.1 hl).1
    have hy := run_yield (P := P) (args := encs x) hl (by rw [hrc]; exact hps x)
    rw [hrc] at hy
    refine ⟨fn, _, assign, body, hy, RoundIn.anyDepth' (roundIn_of_wpIn (n := m) trivial (hassign _ x W _ ?_))⟩
    clear hy
    refine ⟨_, run_beginRound hl (by rw [hrc]), ?_⟩
    have hl2 : (W.putObj (w.heap.size + 1) (.loop { rc .ready none with state := .busy })).heap[w.heap.size + 1]? = some (.loop { rc .ready none with state := .busy }) := World.putObj_heap_same hlt
    have hk2 : (W.putObj (w.heap.size + 1) (.loop { rc .ready none with state := .busy })).heap[w.heap.size]? = some (.deferred (some [])) := (World.putObj_heap_other (by omega)).trans hk
    have hkk : Kept (fun k => Kp k ∨ (w.heap.size + 2 ≤ k ∧ k < w.heap.size + 2 + d)) W (W.putObj (w.heap.size + 1) (.loop { rc .ready none with state := .busy })) := (Kept.refl _ _).putObj hK' _
    have hi2 := hI pre _ (W.putObj (w.heap.size + 1) (.loop { rc .ready none with state := .busy })) (by omega) hi ((Kept.refl _ _).putObj (fun h => h.1 rfl) _)
    have hs2 : w.heap.size + 2 + d ≤ (W.putObj (w.heap.size + 1) (.loop { rc .ready none with state := .busy })).heap.size := by rw [World.putObj_size]; exact hW
    generalize W.putObj (w.heap.size + 1) (.loop { rc .ready none with state := .busy }) = W2 at hl2 hk2 hkk hi2 hs2
    refine wpIn_mono (hbody _ pre x W2 rfl hs2 hpre hi2) ?_
    have fin : ∀ (jump : Option Code) (W3 : World), Kept (fun k => k = w.heap.size ∨ k = w.heap.size + 1 ∨ (Kp k ∨ (w.heap.size + 2 ≤ k ∧ k < w.heap.size + 2 + d))) W2 W3 →
        (Instr.endRound (w.heap.size + 1) jump).run P W3 = .ok (.bool jump.isNone) (W3.putObj (w.heap.size + 1) (.loop (rc (if jump.isNone then .ready else .done) jump))) ∧
        w.heap.size ≤ W3.heap.size ∧
        Kept (fun k => Kp k ∨ (w.heap.size + 2 ≤ k ∧ k < w.heap.size + 2 + d)) W (W3.putObj (w.heap.size + 1) (.loop (rc (if jump.isNone then .ready else .done) jump))) ∧
        Kept (fun k => k ≠ w.heap.size + 1 ∧ ¬ (w.heap.size + 2 ≤ k ∧ k < w.heap.size + 2 + d)) W3 (W3.putObj (w.heap.size + 1) (.loop (rc (if jump.isNone then .ready else .done) jump))) ∧
        (W3.putObj (w.heap.size + 1) (.loop (rc (if jump.isNone then .ready else .done) jump))).heap[w.heap.size + 1]? = some (.loop (rc (if jump.isNone then .ready else .done) jump)) ∧
        (W3.putObj (w.heap.size + 1) (.loop (rc (if jump.isNone then .ready else .done) jump))).heap[w.heap.size]? = some (.deferred (some [])) := fun jump W3 h3 => by
      have hl3 := h3.obj (.inr (.inl rfl)) hl2
      have hr := run_endRound (P := P) jump hl3
      have hs3 := h3.size
      rw [hrc] at hr ⊢
      exact ⟨hr, by omega, hkk.trans ((h3.mono fun k hk => .inr (.inr hk)).putObj hK' _), (Kept.refl _ _).putObj (fun h => h.1 rfl) _, World.putObj_heap_same (Array.getElem?_eq_some_iff.1 hl3).1, (World.putObj_heap_other (by omega)).trans (h3.obj (.inl rfl) hk2)⟩
    rintro e a3 W3 hp
    cases e with
    | normal =>
      obtain ⟨h3, hi3⟩ := hp
      obtain ⟨hr, hs3, hkp, hkx, hl4, hk4⟩ := fin none W3 h3
      exact ⟨_, _, hr, hkp, .inl ⟨rfl, hI _ _ _ hs3 hi3 hkx, hl4, hk4⟩⟩
    | ret =>
      obtain ⟨h3, hi3⟩ := hp
      obtain ⟨hr, hs3, hkp, hkx, hl4, hk4⟩ := fin (some .ret) W3 h3
      exact ⟨_, _, hr, hkp, .inr ⟨rfl, .ret, hIx _ _ _ _ hs3 hi3 hkx, hl4, hk4⟩⟩
    | exit id =>
      obtain ⟨h3, hi3⟩ := hp
      obtain ⟨hr, hs3, hkp, hkx, hl4, hk4⟩ := fin (some (.exit id)) W3 h3
      exact ⟨_, _, hr, hkp, .inr ⟨rfl, .exit id, hIx _ _ _ _ hs3 hi3 hkx, hl4, hk4⟩⟩
    | goto t => exact hp.elim
    | panic ch => exact hp.elim
    | outgrown => exact hp.elim
  · exact ⟨hI [] w W1 (Nat.le_refl _) h0 (Kept.of_below hbl), hl1, hk1⟩
  · -- behind it
    rintro e W2 ⟨⟨v, rfl⟩, hs2, (⟨hi, hl, hk⟩ | ⟨pre, hpre, c, hi, hl, hk⟩)⟩
    · exact ⟨none, _, by have := run_endLoop (P := P) hl (by rw [hrc]; simp); rw [hrc] at this; exact this,
        hdone _ (by rw [World.putObj_size]; exact hs2) (hI _ _ _ (by omega) hi ((Kept.refl _ _).putObj (fun h => h.1 rfl) _)) ((World.putObj_heap_other (by omega)).trans hk)⟩
    · exact ⟨some c, _, by have := run_endLoop (P := P) hl (by rw [hrc]; simp); rw [hrc] at this; exact this,
        hstop c pre _ (by rw [World.putObj_size]; exact hs2) hpre (hIx c _ _ _ (by omega) hi ((Kept.refl _ _).putObj (fun h => h.1 rfl) _)) ((World.putObj_heap_other (by omega)).trans hk)⟩
end Go.Proofs.YtimdioacmojkeaaGreatDoor

namespace Go.Proofs.YtimdioacmojkeaaGreatDoor
open Go.RowKit Go.Shelf

attribute [local go_sem] Oper.semAt_some
/-- what a round is told -/
def encP (x : Nat × Ck.Bs) : Array Value := #[.int .i64 (x.1 : Int), Sv x.2]
/-- a Cut in a variable -/
def CutAt (W : World) (B : Nat) (mn mx bt : Int) : Prop := W.heap[B]? = some (.cells #[.int .i64 mn, .int .i64 mx, .int .i64 bt] 23 (0, 0))
theorem CutAt.lt {W : World} {B : Nat} {mn mx bt : Int} (h : CutAt W B mn mx bt) : B < W.heap.size := (Array.getElem?_eq_some_iff.1 h).1
theorem CutAt.c0 {W : World} {B : Nat} {mn mx bt : Int} (h : CutAt W B mn mx bt) : W.cell? ⟨B, 0, none⟩ = some (.int .i64 mn) := by simp [World.cell?, show W.heap[B]? = _ from h]
theorem CutAt.c1 {W : World} {B : Nat} {mn mx bt : Int} (h : CutAt W B mn mx bt) : W.cell? ⟨B, 1, none⟩ = some (.int .i64 mx) := by simp [World.cell?, show W.heap[B]? = _ from h]
theorem CutAt.c2 {W : World} {B : Nat} {mn mx bt : Int} (h : CutAt W B mn mx bt) : W.cell? ⟨B, 2, none⟩ = some (.int .i64 bt) := by simp [World.cell?, show W.heap[B]? = _ from h]

theorem CutAt.kept {p : Nat → Prop} {A B : World} {k : Nat} {mn mx bt : Int} (h : CutAt A k mn mx bt) (hk : Kept p A B) (hp : p k) : CutAt B k mn mx bt := hk.obj hp h

theorem drop_ext (s : ByteArray) (a : Nat) : (s.extract a s.size).data.toList = s.data.toList.drop a := by
  rw [ext_eq]
  show List.take _ _ = _
  rw [List.take_of_length_le (by rw [List.length_drop, ← Lib.size_eq]; exact Nat.le_refl _)]
theorem piece_ext (s : ByteArray) (a n : Nat) : s.extract a (a + n) = ⟨((s.data.toList.drop a).take n).toArray⟩ := by
  rw [ext_eq, show a + n - a = n from by omega]

set_option maxRecDepth 100000 in
set_option maxHeartbeats 2000000 in
theorem ruled1_of (mn mx bt : Nat) (hb1 : 1 ≤ bt) (hb2 : bt ≤ 12) (s : ByteArray) (hs : s.size ≤ 4096) (W : World) (bc bs : Nat) (hc : CutAt W bc mn mx bt) (hsb : Boxed W bs 9 (.string s))
    (XS : List (Nat × Ck.Bs)) (R : Nat → List (Nat × Ck.Bs)) (N : Nat → Nat)
    (hN : ∀ a, a ≤ s.size → Ck.First (Ck.ends mn mx bt Rl.ofL) (s.data.toList.drop a) (N a)) (hX : XS = R 0) (hR0 : ∀ a, a ≤ s.size → N a = 0 → R a = [])
    (hR1 : ∀ a, a ≤ s.size → 0 < N a → a + N a ≤ s.size ∧ R a = (a, (s.data.toList.drop a).take (N a)) :: R (a + N a)) :
    Tells Tryz.prog 169 #[.pointer (some ⟨bc, 0, none⟩), .pointer (some ⟨bs, 0, none⟩)] encP XS 0 (fun k => k = bc ∨ k = bs) W := by
  intro l J Jx hJ hJx hY h0
  have c0 := hc.c0
  have c1 := hc.c1
  have c2 := hc.c2
  have cs := hsb.cell
  have hby : ∀ a, a ≤ s.size → ∀ V, Calls Tryz.prog 170 #[.agg #[.int .i64 mn, .int .i64 mx, .int .i64 bt], .string (s.extract a s.size)] V fun e w' => e = .returned (.int .i64 (N a)) ∧ Below V.heap.size V w' := fun a ha V =>
    ck_bytes_any mn mx bt hb1 hb2 (s.extract a s.size) V (by rw [ByteArray.size_extract]; omega) (N a) (by rw [drop_ext]; exact hN a ha)
  have hb0 : ∀ V, Calls Tryz.prog 170 #[.agg #[.int .i64 mn, .int .i64 mx, .int .i64 bt], .string s] V fun e w' => e = .returned (.int .i64 (N 0)) ∧ Below V.heap.size V w' := fun V => by
    have := hby 0 (Nat.zero_le _) V
    rwa [show s.extract 0 s.size = s from by simp] at this
  refine (callsIn_wide (n := 9)).1 ?_
  refine callsIn_of_wp Tryz.func169 rfl trivial ?_ rfl
  simp only [Tryz.ntmps169, List.size_toArray, List.length_cons, List.length_nil, Nat.reduceAdd, Nat.reduceSub, Array.replicate_succ, Array.replicate_zero, List.push_toArray, List.append_toArray, List.nil_append, List.cons_append]
  gi_wp2_with fail
  refine ⟨trivial, (callsIn_wide.2 (hb0 _)).mono ?_⟩
  rintro e w1 ⟨rfl, hbl⟩
  have HJ1 : Hid (J [] w1) := hJ _ _ _ (Nat.le_refl _) h0 (Kept.of_below hbl)
  have HC1 : Hid (CutAt w1 bc mn mx bt) := hc.kept (Kept.of_below (p := fun _ => True) hbl) trivial
  have HS1 : Hid (Boxed w1 bs 9 (.string s)) := (Kept.of_below (p := fun _ => True) hbl).boxed trivial hsb
  have hsz := hbl.size
  clear hbl hb0 c0 c1 c2 cs hc hsb h0
  gi_wp2_with fail
  gi_loopw [4, 5] (fun u v wr => ∃ (pre : List (Nat × Ck.Bs)) (a : Nat), u = .int .i64 a ∧ v = .int .i64 (N a) ∧ a ≤ s.size ∧ Hid (XS = pre ++ R a) ∧ Hid (J pre wr) ∧ Hid (CutAt wr bc mn mx bt) ∧ Hid (Boxed wr bs 9 (.string s)) ∧ W.heap.size ≤ wr.heap.size) (fun u _ _ => s.size - (intOf u).toNat)
  case atStart => exact ⟨[], 0, rfl, rfl, Nat.zero_le _, by rw [hX]; rfl, HJ1, HC1, HS1, hsz⟩
  case round =>
    obtain ⟨pre, a, rfl, rfl, ha, HX, HJ, HC, HS, hsw⟩ := hrel
    clear HJ1 HC1 HS1 hsz
    by_cases hn : N a = 0
    · have HX2 : Hid (XS = pre) := by show _ = _; rw [HX.out, hR0 a ha hn, List.append_nil]
      have hq : ¬ 0 < N a := by omega
      clear hY hby hN hR0 hR1 hn
      gi_wp2_with fail
      go_end0
      exact ⟨⟨_, rfl⟩, hsw, .inl (by rw [HX2.out]; exact HJ.out)⟩
    · obtain ⟨ha2, hRa⟩ := hR1 a ha (by omega)
      have hq : 0 < N a := by omega
      have cs := HS.out.cell
      have HP : Hid (pre ++ [(a, (s.data.toList.drop a).take (N a))] <+: XS) := ⟨R (a + N a), by rw [HX.out, hRa]; simp⟩
      have HX2 : Hid (XS = (pre ++ [(a, (s.data.toList.drop a).take (N a))]) ++ R (a + N a)) := by show _ = _; rw [HX.out, hRa]; simp
      have HE : Hid (encP (a, (s.data.toList.drop a).take (N a)) = #[.int .i64 (a : Int), .string (s.extract a (a + N a))]) := by
        show _ = _
        rw [piece_ext]; rfl
      have HY : Hid (∀ W1, W.heap.size ≤ W1.heap.size → J pre W1 → YieldAt Fence.wide 8 Tryz.prog l #[.int .i64 (a : Int), .string (s.extract a (a + N a))] W1 fun e W' =>
          Kept (fun k => (k = bc ∨ k = bs) ∨ (W.heap.size ≤ k ∧ k < W.heap.size + 0)) W1 W' ∧ ((e = .returned (.bool true) ∧ J (pre ++ [(a, (s.data.toList.drop a).take (N a))]) W') ∨ (e = .returned (.bool false) ∧ Jx (pre ++ [(a, (s.data.toList.drop a).take (N a))]) W'))) := fun W1 h1 h2 => by
        have := hY pre _ W1 h1 HP.out h2
        rw [HE.out] at this
        exact YieldAt.anyDepth' 8 this
      have hcl := fun V => ck_clone_any (s.extract a (a + N a)) V (by rw [ByteArray.size_extract]; omega)
      have hnext := hby (a + N a) ha2
      generalize (pre ++ [(a, (s.data.toList.drop a).take (N a))]) = pre2 at *
      generalize hnn : N (a + N a) = n2 at *
      generalize hna : N a = n at *
      have HN2 : Hid (N (a + n) = n2) := hnn
      generalize hpe : s.extract a (a + n) = piece at *
      clear hY hby hN hR0 hR1 hn hRa HX HE hnn
      gi_wp2_with fail
      refine ⟨trivial, (callsIn_wide.2 (hcl _)).mono ?_⟩
      rintro e w2 ⟨rfl, hbl⟩
      have hs2 : W.heap.size ≤ w2.heap.size := by have := hbl.size; omega
      obtain ⟨fn, tmps, assign, body, hy, hR⟩ := HY.out w2 hs2 (hJ _ _ _ hsw HJ.out (Kept.of_below hbl))
      have HC2 : Hid (CutAt w2 bc mn mx bt) := HC.out.kept (Kept.of_below (p := fun _ => True) hbl) trivial
      have HS2 : Hid (Boxed w2 bs 9 (.string s)) := (Kept.of_below (p := fun _ => True) hbl).boxed trivial HS.out
      clear hcl hbl HY HJ HC HS cs hsw
      gi_wp2_with fail
      refine hR.mono ?_
      rintro e w3 ⟨hk3, (⟨rfl, hJ3⟩ | ⟨rfl, hx3⟩)⟩
      · have HJ3 : Hid (J pre2 w3) := hJ3
        have HC3 : Hid (CutAt w3 bc mn mx bt) := HC2.out.kept hk3 (.inl (.inl rfl))
        have HS3 : Hid (Boxed w3 bs 9 (.string s)) := hk3.boxed (.inl (.inr rfl)) HS2.out
        have hs3 : W.heap.size ≤ w3.heap.size := by have := hk3.size; omega
        have c0 := HC3.out.c0
        have c1 := HC3.out.c1
        have c2 := HC3.out.c2
        have cs := HS3.out.cell
        clear hR hy hk3 hJ3 HC2 HS2 hs2 hpe
        gi_wp2_with fail
        have lc := HC3.out.lt
        have ls := HS3.out.lt
        have d0 : ∀ X : Since w3.heap.size w3, X.val.cell? ⟨bc, 0, none⟩ = some (.int .i64 (mn : Int)) := fun X => (X.property.cell (p := ⟨bc, 0, none⟩) lc).trans c0
        have d1 : ∀ X : Since w3.heap.size w3, X.val.cell? ⟨bc, 1, none⟩ = some (.int .i64 (mx : Int)) := fun X => (X.property.cell (p := ⟨bc, 1, none⟩) lc).trans c1
        have d2 : ∀ X : Since w3.heap.size w3, X.val.cell? ⟨bc, 2, none⟩ = some (.int .i64 (bt : Int)) := fun X => (X.property.cell (p := ⟨bc, 2, none⟩) lc).trans c2
        have ds : ∀ X : Since w3.heap.size w3, X.val.cell? ⟨bs, 0, none⟩ = some (.string s) := fun X => (X.property.cell (p := ⟨bs, 0, none⟩) ls).trans cs
        have hne : Nonempty (Since w3.heap.size w3) := ⟨⟨w3, Below.refl _ _⟩⟩
        refine wpIn_wide.2 ?_
        refine wp_region_since (B := w3.heap.size) (W0 := w3) (by kernel_rfl) (by kernel_rfl) (Below.refl _ _) ?_
        repeat (go_big_quiet_step (fail))
        go_big_quiet_step (exact quiet_since _ (hnext _))
        repeat (go_big_quiet_step (fail))
        refine wpQuiet_nil ?_
        rintro w4 ⟨U, rfl⟩
        have hbl := U.property
        generalize U.val = w4 at *
        clear d0 d1 d2 ds hne lc ls
        have HJ4 : Hid (J pre2 w4) := hJ _ _ _ hs3 HJ3.out (Kept.of_below hbl)
        have HC4 : Hid (CutAt w4 bc mn mx bt) := HC3.out.kept (Kept.of_below (p := fun _ => True) hbl) trivial
        have HS4 : Hid (Boxed w4 bs 9 (.string s)) := (Kept.of_below (p := fun _ => True) hbl).boxed trivial HS3.out
        have hs4 : W.heap.size ≤ w4.heap.size := by have := hbl.size; omega
        clear hbl HJ3 HC3 HS3 hs3 c0 c1 c2 cs hnext
        gi_wp2_with fail
        go_roundw
        case rel => exact ⟨pre2, a + n, by go_num, by rw [HN2.out], ha2, HX2, HJ4, HC4, HS4, hs4⟩
        case measure => simp only [intOf]; omega
      · have hs3 : W.heap.size ≤ w3.heap.size := by have := hk3.size; omega
        gi_wp2_with fail
        refine bodyPost_ret (results_none rfl _ _ _) rfl ?_
        exact ⟨⟨_, rfl⟩, hs3, .inr ⟨pre2, HP.out, hx3⟩⟩

theorem ruled1_tells (mn mx bt : Nat) (hb1 : 1 ≤ bt) (hb2 : bt ≤ 12) (s : ByteArray) (hs : s.size ≤ 4096) (W : World) (bc bs : Nat) (hc : CutAt W bc mn mx bt) (hsb : Boxed W bs 9 (.string s)) :
    Tells Tryz.prog 169 #[.pointer (some ⟨bc, 0, none⟩), .pointer (some ⟨bs, 0, none⟩)] encP (Ck.withAt 0 (Ck.pieces (Ck.ends mn mx bt Rl.ofL) s.data.toList).1) 0 (fun k => k = bc ∨ k = bs) W := by
  have hex : ∀ a, ∃ n, Ck.First (Ck.ends mn mx bt Rl.ofL) (s.data.toList.drop a) n := fun a => Ck.first_ex _ _
  refine ruled1_of mn mx bt hb1 hb2 s hs W bc bs hc hsb _ (fun a => Ck.withAt a (Ck.pieces (Ck.ends mn mx bt Rl.ofL) (s.data.toList.drop a)).1) (fun a => Classical.choose (hex a)) (fun a _ => Classical.choose_spec (hex a)) rfl ?_ ?_
  · intro a _ h0
    have h := Classical.choose_spec (hex a)
    rw [h0] at h
    rw [Ck.pieces_first_none h]
    rfl
  · intro a ha h0
    have h := Classical.choose_spec (hex a)
    generalize Classical.choose (hex a) = n at h h0 ⊢
    have hle : a + n ≤ s.size := by
      rcases h.hit with h1 | ⟨_, h2, _⟩
      · omega
      · rw [List.length_drop, ← Lib.size_eq] at h2; omega
    refine ⟨hle, ?_⟩
    have hl : ((s.data.toList.drop a).take n).length = n := by rw [List.length_take, List.length_drop, ← Lib.size_eq]; omega
    rw [Ck.pieces_first h h0, Ck.withAt, hl, List.drop_drop]

set_option maxHeartbeats 400000 in
theorem ruled_any (mn mx bt : Int) (s : ByteArray) (w : World) :
    Calls Tryz.prog 160 #[cutV mn mx bt, .string s] w fun e w' => e = .returned (.func (.func 169) #[] #[.pointer (some ⟨w.heap.size, 0, none⟩), .pointer (some ⟨w.heap.size + 1, 0, none⟩)]) ∧
      CutAt w' w.heap.size mn mx bt ∧ Boxed w' (w.heap.size + 1) 9 (.string s) ∧ Below w.heap.size w w' ∧ w'.heap.size = w.heap.size + 2 := by
  unfold cutV
  go_enter Tryz.func160, Tryz.ntmps160
  go_wp2
  go_ret
  refine ⟨rfl, ?_, ?_, ((Below.refl _ w).alloc (Nat.le_refl _) _).alloc (by simp) _, by simp⟩
  · exact (Below.heap_alloc _ _ _ (by simp)).trans (World.alloc_heap_new w _)
  · have := World.alloc_heap_new (w.alloc (.cells #[.int .i64 mn, .int .i64 mx, .int .i64 bt] 23)) (.cells #[.string s] 9)
    rwa [World.size_alloc] at this
end Go.Proofs.YtimdioacmojkeaaGreatDoor

namespace Go.Proofs.YtimdioacmojkeaaGreatDoor
open Go.RowKit
set_option maxRecDepth 4000

/-- what Cut tells -/
def cutL (mn mx bt : Int) (s : ByteArray) : List Ck.Bs := if sizeN mn mx bt s.size = 0 then Ck.cut (Ck.ends mn.toNat mx.toNat bt.toNat Rl.ofL) s.data.toList else []
theorem sizeN_zero {mn mx bt n : Int} : sizeN mn mx bt n = 0 ↔ OkCut mn mx bt ∧ n ≤ 4096 := by
  unfold sizeN
  by_cases h : OkCut mn mx bt
  · rw [if_pos h]
    by_cases h2 : n ≤ 4096
    · rw [if_pos h2]; exact ⟨fun _ => ⟨h, h2⟩, fun _ => rfl⟩
    · rw [if_neg h2]; exact ⟨fun e => by omega, fun e => absurd e.2 h2⟩
  · rw [if_neg h]; exact ⟨fun e => by omega, fun e => absurd e.1 h⟩
theorem cut_some {E : Ck.Bs → Bool} {t : Ck.Bs} {l : List Ck.Bs} {q : Ck.Bs} (h : Ck.pieces E t = (l, q)) (hq : q ≠ []) : Ck.cut E t = l ++ [q] := by rw [Ck.cut_of h, if_neg hq]
theorem cut_none {E : Ck.Bs → Bool} {t : Ck.Bs} {l : List Ck.Bs} (h : Ck.pieces E t = (l, [])) : Ck.cut E t = l := by rw [Ck.cut_of h, if_pos rfl]

set_option maxHeartbeats 1000000 in
theorem rcut_of (l : List Ck.Bs) (q : ByteArray) (b : Bool) (mn mx bt : Int) (s : ByteArray) (w : World) (k : Int) (L : List Ck.Bs) (hl : l.length ≤ 4096)
    (hk : (k = 1 ∧ L = []) ∨ (k = 2 ∧ L = [] ∧ 4096 < s.size) ∨ (k = 0 ∧ s.size ≤ 4096 ∧ L = if b then l ++ [q.data.toList] else l)) (hb : q.toList.isEmpty = !b)
    (hok : ∀ V, Calls Tryz.prog 33 #[cutV mn mx bt] V fun e w' => e = .returned (.int .i64 (if k = 1 then 1 else 0)) ∧ Below V.heap.size V w')
    (hp : k = 0 → ∀ V, Calls Tryz.prog 94 #[cutV mn mx bt, .string s] V fun e w' => ∃ v, e = .returned (.tuple #[v, .string q]) ∧ w'.ownsRow V.heap.size 9 1 v l.length (l.map Sv) ∧ Below V.heap.size V w') :
    Calls Tryz.prog 69 #[cutV mn mx bt, .string s] w fun e w' => ∃ v, e = .returned (.tuple #[v, .int .i64 k]) ∧ w'.ownsRow w.heap.size 9 1 v L.length (L.map Sv) ∧ Below w.heap.size w w' := by
  obtain ⟨i0, hi, hz0, hz1, hz2⟩ := info_parts info_str
  unfold cutV at hok hp ⊢
  rcases hk with ⟨rfl, rfl⟩ | ⟨rfl, rfl, hs⟩ | ⟨rfl, hs, hL⟩
  · rw [if_pos rfl] at hok
    clear hp
    go_enter Tryz.func69, Tryz.ntmps69
    go_wp2_with fail
    refine (hok _).mono ?_
    rintro e w1 ⟨rfl, hb1⟩
    have hB1 := below_past hb1
    clear hb1
    go_wp2_with fail
    go_ret2
    exact ⟨_, rfl, World.ownsRow_nil _ _ _ _, hB1⟩
  · rw [if_neg (by omega)] at hok
    clear hp
    go_enter Tryz.func69, Tryz.ntmps69
    go_wp2_with fail
    refine (hok _).mono ?_
    rintro e w1 ⟨rfl, hb1⟩
    have hB1 := below_past hb1
    clear hb1
    go_wp2_with fail
    go_ret2
    exact ⟨_, rfl, World.ownsRow_nil _ _ _ _, hB1⟩
  · rw [if_neg (by omega)] at hok
    replace hp := hp rfl
    have HL : Hid (L = if b then l ++ [q.data.toList] else l) := hL
    clear hL
    go_enter Tryz.func69, Tryz.ntmps69
    go_upto_region 1 with fail
    obtain ⟨W4, hW4⟩ : ∃ W4, W4 = w.alloc (Obj.cells #[Value.int IntKind.i64 mn, Value.int IntKind.i64 mx, Value.int IntKind.i64 bt] 23) := ⟨_, rfl⟩
    have hlw : w.heap.size < W4.heap.size := by rw [hW4]; simp
    have HB : Hid (Below w.heap.size w W4) := by rw [hW4]; exact (Below.refl _ w).alloc (Nat.le_refl _) _
    have c0 : W4.cell? ⟨w.heap.size, 0, none⟩ = some (.int .i64 mn) := by rw [hW4]; simp
    have c1 : W4.cell? ⟨w.heap.size, 1, none⟩ = some (.int .i64 mx) := by rw [hW4]; simp
    have c2 : W4.cell? ⟨w.heap.size, 2, none⟩ = some (.int .i64 bt) := by rw [hW4]; simp
    rw [← hW4]
    clear hW4
    go_wp2_with fail
    refine (hok _).mono ?_
    rintro e w1 ⟨rfl, hb1⟩
    have d0 : w1.cell? ⟨w.heap.size, 0, none⟩ = some (.int .i64 mn) := (hb1.cell (p := ⟨w.heap.size, 0, none⟩) hlw).trans c0
    have d1 : w1.cell? ⟨w.heap.size, 1, none⟩ = some (.int .i64 mx) := (hb1.cell (p := ⟨w.heap.size, 1, none⟩) hlw).trans c1
    have d2 : w1.cell? ⟨w.heap.size, 2, none⟩ = some (.int .i64 bt) := (hb1.cell (p := ⟨w.heap.size, 2, none⟩) hlw).trans c2
    have hl1 : w.heap.size < w1.heap.size := by have := hb1.size; omega
    have HB1 : Hid (Below w.heap.size w w1) := HB.out.trans (hb1.mono (by omega))
    clear hb1 c0 c1 c2 HB hok
    go_wp2_with fail
    refine (hp _).mono ?_
    rintro e w2 ⟨v, rfl, hown, hb2⟩
    have hB2 := HB1.out.trans (hb2.mono (by omega))
    have hs2 := hb2.size
    replace hown := own_lower hown (show w.heap.size ≤ w1.heap.size by omega)
    clear hb2 HB1 d0 d1 d2 hp
    cases b with
    | true =>
      replace hb : q.toList.isEmpty = false := hb
      go_wp2_with (at_builtin; refine wpList_append_own _ rfl _ _ 62 rfl w.heap.size 9 i0 (.string ⟨#[]⟩) 1 16 Tryz.underlying62 hi hz0 hz1 hz2 rfl (by decide) _ _ _ rfl (hown.alloc _) ⟨w2.heap.size, 0, none⟩ 1 1 [.string q] rfl rfl ?c1 ?c2 ?c3 ?c4 ?c5 ?_)
      case c1 =>
        intro j u hj
        match j, hj with
        | 0, hj => simp at hj; subst hj; simp [Addr.add]
      case c2 => intro u hu; simp at hu; subst hu; rfl
      case c3 => unfold maxLen; omega
      case c4 => omega
      case c5 => simp; omega
      intro v' w3 hown1 hgrow _
      have R := own_str hown hown1 hgrow hB2 (Nat.le_refl _)
      have HR : Hid (w3.ownsRow w.heap.size 9 1 v' L.length (L.map Sv)) := by rw [HL.out]; exact R.1
      have HR2 : Hid (Below w.heap.size w w3) := R.2
      clear R hown1 hgrow hown hB2
      go_wp2_with fail
      go_ret2
      exact ⟨_, rfl, HR.out, HR2.out⟩
    | false =>
      replace hb : q.toList.isEmpty = true := hb
      go_wp2_with fail
      go_ret2
      exact ⟨_, rfl, by rw [HL.out]; exact hown, hB2⟩

theorem ck_rcut_any (mn mx bt : Int) (s : ByteArray) (w : World) :
    Calls Tryz.prog 69 #[cutV mn mx bt, .string s] w fun e w' => ∃ v, e = .returned (.tuple #[v, .int .i64 (sizeN mn mx bt s.size)]) ∧
      w'.ownsRow w.heap.size 9 1 v (cutL mn mx bt s).length ((cutL mn mx bt s).map Sv) ∧ Below w.heap.size w w' := by
  obtain ⟨l, q, hp⟩ : ∃ l q, Ck.pieces (Ck.ends mn.toNat mx.toNat bt.toNat Rl.ofL) s.data.toList = (l, q) := ⟨_, _, rfl⟩
  by_cases hO : OkCut mn mx bt
  · by_cases hs : s.size ≤ 4096
    · obtain ⟨h1, h2, h3, h4, h5⟩ := hO
      obtain ⟨mn, rfl⟩ := Int.eq_ofNat_of_zero_le (show 0 ≤ mn by omega)
      obtain ⟨mx, rfl⟩ := Int.eq_ofNat_of_zero_le (show 0 ≤ mx by omega)
      obtain ⟨bt, rfl⟩ := Int.eq_ofNat_of_zero_le (show 0 ≤ bt by omega)
      simp only [Int.toNat_natCast] at hp
      have hz : sizeN mn mx bt s.size = 0 := sizeN_zero.2 ⟨⟨h1, h2, h3, h4, h5⟩, by omega⟩
      have hL : cutL mn mx bt s = if !q.isEmpty then l ++ [q] else l := by
        rw [cutL, if_pos hz]
        simp only [Int.toNat_natCast]
        cases q with
        | nil => exact cut_none hp
        | cons b t => exact cut_some hp (by simp)
      have hlen : l.length ≤ 4096 := by
        have hm := Ck.pieces_ends (E := Ck.ends mn mx bt Rl.ofL) s.data.toList
        have hj := congrArg List.length (Ck.pieces_join (E := Ck.ends mn mx bt Rl.ofL) s.data.toList)
        rw [hp] at hm hj
        rw [← Lib.size_eq, List.length_append] at hj
        have : ∀ (l : List Ck.Bs), (∀ p ∈ l, 1 ≤ p.length) → l.length ≤ l.flatten.length := by
          intro l
          induction l with
          | nil => intro _; simp
          | cons p l ih =>
            intro h
            have a := ih (fun p hp => h p (List.mem_cons_of_mem _ hp))
            have b := h p (List.mem_cons_self)
            rw [List.flatten_cons, List.length_append, List.length_cons]; omega
        have := this l (fun p hp => by
          have := Ck.ends_min (hm p hp) (by omega)
          omega)
        dsimp only at hj
        omega
      refine rcut_of l ⟨q.toArray⟩ (!q.isEmpty) mn mx bt s w _ _ hlen (.inr (.inr ⟨hz, hs, hL⟩)) ?_ ?_ ?_
      · rw [Lib.toList_data]; simp
      · intro V
        rw [hz]
        have := rok_any mn mx bt V
        rw [okN_yes ⟨h1, h2, h3, h4, h5⟩] at this
        exact this
      · intro _ V
        have := rpieces_any mn mx bt (by omega) (by omega) s V hs
        rw [hp] at this
        exact this
    · have hz : sizeN mn mx bt s.size = 2 := by rw [sizeN, if_pos hO, if_neg (by omega)]
      refine rcut_of [] ⟨#[]⟩ false mn mx bt s w _ _ (by simp) (.inr (.inl ⟨hz, by rw [cutL, if_neg (by omega)], by omega⟩)) (by rw [Lib.toList_data]; rfl) ?_ (fun h => by omega)
      intro V
      rw [hz]
      have := rok_any mn mx bt V
      rw [okN_yes hO] at this
      exact this
  · have hz : sizeN mn mx bt s.size = 1 := by rw [sizeN, if_neg hO]
    refine rcut_of [] ⟨#[]⟩ false mn mx bt s w _ _ (by simp) (.inl ⟨hz, by rw [cutL, if_neg (by omega)]⟩) (by rw [Lib.toList_data]; rfl) ?_ (fun h => by omega)
    intro V
    rw [hz]
    have := rok_any mn mx bt V
    rw [okN_no hO] at this
    exact this
end Go.Proofs.YtimdioacmojkeaaGreatDoor

namespace Go.Proofs.YtimdioacmojkeaaGreatDoor
open Go.RowKit

/-- what is listed comes behind what it waits for -/
def closedB (md : Region.Mode) (ops : Array Oper) (listed : Array Bool) : Bool :=
  (List.range ops.size).all fun j => !listed.getD j false || (match ops[j]? with | none => true | some o => o.after.all fun e => !Region.binds md e || listed.getD e.on false)
def lists : Nat → List (List Bool)
  | 0 => [[]]
  | n + 1 => (lists n).flatMap fun l => [true :: l, false :: l]
theorem mem_lists (l : List Bool) : ∀ n, l.length = n → l ∈ lists n := by
  induction l with
  | nil => intro n h; subst h; simp [lists]
  | cons b l ih =>
    intro n h
    subst h
    rw [List.length_cons, lists, List.mem_flatMap]
    refine ⟨l, ih _ rfl, ?_⟩
    cases b <;> simp
/-- operation z waits for all others -/
def lastB (md : Region.Mode) (ops : Array Oper) (z : Nat) : Bool :=
  (lists ops.size).all fun l => !closedB md ops l.toArray || ((l.toArray.getD z true || !(Region.ready md ops l.toArray).isEmpty) && (!(Region.ready md ops l.toArray).contains z || (Region.ready md ops (l.toArray.setIfInBounds z true)).isEmpty))

theorem getD_set_other {listed : Array Bool} {i j : Nat} (d : Bool) (h : j ≠ i) : (listed.setIfInBounds i true).getD j d = listed.getD j d := by
  rw [Array.getD_eq_getD_getElem?, Array.getD_eq_getD_getElem?, Array.getElem?_setIfInBounds_ne (Ne.symm h)]
section
variable {P : Program} {md : Region.Mode} {ops ops' : Array Oper} {C : World → Prop} {n : Nat}
theorem last_spec {z : Nat} (h : lastB md ops z = true) {listed : Array Bool} (hs : listed.size = ops.size) (hc : closedB md ops listed = true) :
    (listed.getD z true = false → Region.ready md ops listed ≠ []) ∧ (z ∈ Region.ready md ops listed → Region.ready md ops (listed.setIfInBounds z true) = []) := by
  have h1 := List.all_eq_true.1 h listed.toList (mem_lists _ _ (by rw [Array.length_toList]; exact hs))
  simp only [Array.toArray_toList, hc, Bool.not_true, Bool.false_or, Bool.and_eq_true, Bool.or_eq_true, Bool.not_eq_true', List.isEmpty_iff] at h1
  obtain ⟨a, b⟩ := h1
  refine ⟨fun e h0 => ?_, fun hz => ?_⟩
  · rcases a with a | a
    · rw [e] at a; cases a
    · rw [h0] at a; cases a
  · rcases b with b | b
    · rw [List.contains_iff_mem.2 hz] at b; cases b
    · exact b
theorem closed_set {i : Nat} {listed : Array Bool} (hc : closedB md ops listed = true) (hi : i ∈ Region.ready md ops listed) : closedB md ops (listed.setIfInBounds i true) = true := by
  have up : ∀ j, listed.getD j false = true → (listed.setIfInBounds i true).getD j false = true := fun j hj => by
    by_cases e : j = i
    · subst e
      have hlt : j < listed.size := by
        rcases Nat.lt_or_ge j listed.size with h | h
        · exact h
        · simp [Array.getD, Nat.not_lt.2 h] at hj
      simp [Array.getD, hlt]
    · rw [getD_set_other false e]; exact hj
  obtain ⟨_, o, ho, hall⟩ := mem_ready.1 hi
  unfold closedB at hc ⊢
  rw [List.all_eq_true] at hc ⊢
  intro j hj
  have hcj := hc j hj
  by_cases e : j = i
  · subst e
    rw [ho, Bool.or_eq_true]
    right
    dsimp only
    rw [Array.all_eq_true']
    intro ed hed
    cases hb : Region.binds md ed with
    | false => rfl
    | true => rw [up _ (hall ed hed hb)]; rfl
  · rw [show (listed.setIfInBounds i true).getD j false = listed.getD j false from getD_set_other false e]
    cases hl : listed.getD j false with
    | false => rfl
    | true =>
      rw [hl] at hcj
      rw [Bool.not_true, Bool.false_or] at hcj ⊢
      cases hoj : ops[j]? with
      | none => rfl
      | some oj =>
        rw [hoj] at hcj
        dsimp only at hcj ⊢
        rw [Array.all_eq_true'] at hcj ⊢
        intro ed hed
        have := hcj ed hed
        cases hb : Region.binds md ed with
        | false => rfl
        | true =>
          rw [hb, Bool.not_true, Bool.false_or] at this
          rw [up _ this]; rfl
theorem wideIn_of_quiet {o : Oper} {a : Act} {K : Act → Prop} {K' : Act → World → Prop} {Q' : Exit → Act → World → Prop} {w : World} (hw : C w) (h : ∀ a w', C w' → K a → K' a w') (hh : o.quiet P a C K) : o.wpIn Fence.wide n P a w K' Q' := by
  obtain ⟨v, h1, h2⟩ := hh
  have h3 := h1 w hw
  unfold Oper.quietAt at h3
  unfold Oper.wpIn
  refine ⟨fun _ _ => trivial, ?_⟩
  rw [show Fence.wide.round = none from rfl, Oper.semAt_none]
  generalize (execOp a.eval o).run P w = r at *
  cases r with
  | ok x w' =>
    cases x <;> simp only [Oper.quietUpon] at h3 <;> simp only [Oper.uponIn]
    case value u =>
      obtain ⟨e1, e2⟩ := h3
      rw [e1, e2]
      exact h _ _ hw h2
    case skip =>
      obtain ⟨e1, e2⟩ := h3
      rw [e1, ← e2]
      exact h _ _ hw h2
    case enter f args =>
      obtain ⟨e1, hc⟩ := h3
      rw [e1]
      exact ⟨fun h => by simp [Fence.wide] at h, callsIn_wide.2 (hc.mono fun e w'' ⟨he, hw''⟩ => by subst he; exact h _ _ hw'' h2)⟩
  | halt x w' => simp only [Oper.quietUpon] at h3
theorem anyIn_of_last {z : Nat} {o' : Oper} {Qz : Act → Prop} {Q : Exit → Act → World → Prop} (hL : lastB md ops z = true) (hsame : ∀ i, i ≠ z → ops'[i]? = ops[i]?) (hrd : ∀ listed, Region.ready md ops' listed = Region.ready md ops listed)
    (hg : ∀ (i : Nat) (o : Oper), ops[i]? = some o → o.guard = none) (ho' : ops'[z]? = some o') (hg' : o'.guard = none) (hd' : o'.dst = none)
    (hlast : ∀ a w, C w → Qz a → wpOpIn Fence.wide n P ops Q z (fun a' w' => Q .normal a' w') a w) :
    ∀ (fuel : Nat) (listed : Array Bool) (a : Act) (w : World), C w → listed.size = ops.size → closedB md ops listed = true → listed.getD z true = false → wpAnyQ P md ops' C Qz fuel listed a → wpAnyIn Fence.wide n P md ops Q fuel listed a w := by
  intro fuel
  induction fuel with
  | zero =>
    intro listed a w hC hs hc hz h
    exact absurd (by rw [← hrd]; exact h.1) ((last_spec hL hs hc).1 hz)
  | succ fuel ih =>
    intro listed a w hC hs hc hz h
    refine ⟨fun h0 => absurd h0 ((last_spec hL hs hc).1 hz), fun i hi => ?_⟩
    have hq := h.2 i (by rw [hrd]; exact hi)
    by_cases e : i = z
    · subst e
      have hr0 := (last_spec hL hs hc).2 hi
      unfold qOp at hq
      rw [ho'] at hq
      simp only [Region.wanted, hg', if_true] at hq
      obtain ⟨v, _, hn⟩ := hq
      rw [hd'] at hn
      have hQz : Qz a := by
        cases fuel with
        | zero => exact hn.2
        | succ f => exact hn.1 (by rw [hrd]; exact hr0)
      refine wpOpIn_mono (fun a' w' hQ => ?_) (hlast a w hC hQz)
      cases fuel with
      | zero => exact ⟨hr0, hQ⟩
      | succ f => exact ⟨fun _ => hQ, by rw [hr0]; simp⟩
    · unfold qOp at hq
      rw [hsame i e] at hq
      unfold wpOpIn
      have hs' : (listed.setIfInBounds i true).size = ops.size := by rw [Array.size_setIfInBounds]; exact hs
      have hc' := closed_set hc hi
      have hz' : (listed.setIfInBounds i true).getD z true = false := by
        rw [show (listed.setIfInBounds i true).getD z true = listed.getD z true from getD_set_other true (Ne.symm e)]; exact hz
      cases ho : ops[i]? with
      | none => rw [ho] at hq; exact ih _ _ _ hC hs' hc' hz' hq
      | some o =>
        rw [ho] at hq
        simp only [Region.wanted, hg i o ho, if_true] at hq ⊢
        exact wideIn_of_quiet hC (fun a' w' hC' hK => ih _ _ _ hC' hs' hc' hz' hK) hq
end
/-- the last one, put to rest -/
def mute (o : Oper) : Oper := { o with op := .move (.const undef), dst := none }
theorem wpIn_region_last {P : Program} {id n : Nat} {Q : Exit → Act → World → Prop} {a : Act} {w : World} {l : List Oper} {B : Nat} {W0 : World} (z : Nat) (o : Oper) (hz : l[z]? = some o) (hm : P.follows .mixedOrders = true)
    (hB : Region.lexB .any (l.modify z mute).toArray = true) (hL : lastB .any l.toArray z = true) (hg : l.all (fun o => o.guard.isNone) = true) (h0 : closedB .any l.toArray (Array.replicate l.length false) = true) (hw : Below B W0 w)
    (h : wpQuiet P (l.modify z mute).toArray (fun w' => ∃ X : Since B W0, w' = X.val) (fun a' => ∀ w', (∃ X : Since B W0, w' = X.val) → wpOpIn Fence.wide n P l.toArray Q z (fun a'' w'' => Q .normal a'' w'') a' w') (l.modify z mute) a) :
    (Code.region id l.toArray true).wpIn Fence.wide n P Q a w := by
  have hgs : ∀ (i : Nat) (o : Oper), l.toArray[i]? = some o → o.guard = none := fun i o ho => by
    have := List.all_eq_true.1 hg o (List.mem_of_getElem? (by simpa using ho))
    simpa using this
  have hzl : z < l.length := (List.getElem?_eq_some_iff.1 hz).1
  have hrd : ∀ listed, Region.ready .any (l.modify z mute).toArray listed = Region.ready .any l.toArray listed := fun listed => by
    unfold Region.ready
    simp only [List.size_toArray, List.length_modify]
    congr 1
    funext j
    simp only [List.getElem?_toArray, List.getElem?_modify]
    by_cases e : z = j
    · subst e; rw [hz]; simp [mute]
    · simp [e]
  simp only [Region.lexB, Bool.and_eq_true] at hB
  refine wpIn_region_any hm ?_
  refine anyIn_of_last (z := z) (o' := mute o) (Qz := fun a' => ∀ w', (∃ X : Since B W0, w' = X.val) → wpOpIn Fence.wide n P l.toArray Q z (fun a'' w'' => Q .normal a'' w'') a' w') (C := fun w' => ∃ X : Since B W0, w' = X.val) (ops' := (l.modify z mute).toArray) hL (fun i hi => ?_) hrd hgs (by simp [hz]) ?_ rfl
    (fun a' w' hC hq => hq w' hC) _ _ _ _ ⟨⟨_, hw.drew⟩, rfl⟩ (by simp) (by simpa using h0) (by simp [Array.getD, hzl]) ?_
  · simp [Ne.symm hi]
  · exact hgs z o (by simpa using hz)
  · have := wpAnyQ_lex (P := P) (C := fun w' => ∃ X : Since B W0, w' = X.val) (md := .any) hB.1 (l.modify z mute) 0 (Array.replicate (l.modify z mute).toArray.size false) a (by simp) (by simpa using hB.2) h
    simpa using this
end Go.Proofs.YtimdioacmojkeaaGreatDoor

namespace Go.Proofs.YtimdioacmojkeaaGreatDoor
open Go.RowKit Go.Shelf

attribute [local go_sem] Oper.semAt_some
theorem RoundIn.inRound' {F : Fence} {n : Nat} {P : Program} {l : Nat} {f : FuncId} {tmps : Array Value} {assign body : Code} {w : World} {R : Ending → World → Prop} (l2 : Nat)
    (h : RoundIn F n P l f tmps assign body w R) : RoundIn (F.inRound l2) n P l f tmps assign body w R := h

theorem Kept.cutAt {p : Nat → Prop} {A B : World} {k : Nat} {mn mx bt : Int} (hk : Kept p A B) (hp : p k) (h : CutAt A k mn mx bt) : CutAt B k mn mx bt := hk.obj hp h
theorem mem_flat {p : Ck.Bs} {l : List Ck.Bs} (h : p ∈ l) : p.length ≤ l.flatten.length := by
  induction l with
  | nil => cases h
  | cons a l ih =>
    rw [List.flatten_cons, List.length_append]
    rcases List.mem_cons.1 h with rfl | h
    · omega
    · have := ih h; omega
/-- between two rounds of the loop in pieces -/
structure PcI (W : World) (l : Nat) (J : List (Nat × Ck.Bs) → World → Prop) (bc bs : Nat) (mn mx bt : Nat) (s : ByteArray) (pre : List (Nat × Ck.Bs)) (V : World) : Prop where
  j : J pre V
  tell : Boxed V W.heap.size 198 (.func (.yield l) #[] #[])
  left : Boxed V (W.heap.size + 1) 3 (.int .i64 ((pre.map (·.2)).flatten.length : Nat))
  str : Boxed V bs 9 (.string s)
  cut : CutAt V bc mn mx bt

set_option maxRecDepth 100000 in
set_option maxHeartbeats 2000000 in
theorem pieces1_tells (mn mx bt : Nat) (hb1 : 1 ≤ bt) (hb2 : bt ≤ 12) (s : ByteArray) (hs : s.size ≤ 4096) (W : World) (bc bs : Nat) (hc : CutAt W bc mn mx bt) (hsb : Boxed W bs 9 (.string s))
    (ls : List Ck.Bs) (q : Ck.Bs) (XS : List (Nat × Ck.Bs)) (hpc : Ck.pieces (Ck.ends mn mx bt Rl.ofL) s.data.toList = (ls, q)) (hX : XS = if q = [] then Ck.withAt 0 ls else Ck.withAt 0 ls ++ [(ls.flatten.length, q)]) :
    Tells Tryz.prog 159 #[.pointer (some ⟨bc, 0, none⟩), .pointer (some ⟨bs, 0, none⟩)] encP XS 6 (fun k => k = bc ∨ k = bs) W := by
  intro l J Jx hJ hJx hY h0
  have c0 := hc.c0
  have c1 := hc.c1
  have c2 := hc.c2
  have cs := hsb.cell
  have lc := hc.lt
  have lsb := hsb.lt
  obtain ⟨W2, hW2⟩ : ∃ W2, W2 = (W.alloc (Obj.cells #[Value.func (Fn.yield l) #[] #[]] 198)).alloc (Obj.cells #[Value.int IntKind.i64 0] 3) := ⟨_, rfl⟩
  have hsz2 : W2.heap.size = W.heap.size + 2 := by rw [hW2]; simp
  have HB2 : Hid (Below W.heap.size W W2) := by rw [hW2]; exact ((Below.refl _ W).alloc (Nat.le_refl _) _).alloc (by simp) _
  have HT2 : Hid (Boxed W2 W.heap.size 198 (.func (.yield l) #[] #[])) := by rw [hW2]; exact (Boxed.new W _ _).alloc _
  have HL2 : Hid (Boxed W2 (W.heap.size + 1) 3 (.int .i64 0)) := by
    rw [hW2]
    have := Boxed.new (W.alloc (Obj.cells #[Value.func (Fn.yield l) #[] #[]] 198)) 3 (.int .i64 0)
    rwa [World.size_alloc] at this
  refine (callsIn_wide (n := 9)).1 ?_
  refine callsIn_of_wp_marks Tryz.func159 rfl trivial ?_ rfl
  simp only [Tryz.ntmps159, List.size_toArray, List.length_cons, List.length_nil, Nat.reduceAdd, Nat.reduceSub, Array.replicate_succ, Array.replicate_zero, List.push_toArray, List.append_toArray, List.nil_append, List.cons_append]
  gi_wp2_with fail
  rw [← hW2]
  refine ⟨trivial, (callsIn_wide.2 (ruled_any mn mx bt s W2)).mono ?_⟩
  rintro e w ⟨rfl, hC2, hS2, hB2, hsz⟩
  rw [hsz2] at hC2 hS2 hsz
  rw [show (W.heap.size + 2 : Nat) = W2.heap.size from hsz2.symm] at hsz
  have HI0 : Hid (PcI W l J bc bs mn mx bt s [] w) := by
    have hk : Kept (fun _ => True) W W2 := Kept.of_below HB2.out
    have hk2 : Kept (fun _ => True) W2 w := Kept.of_below hB2
    exact ⟨hJ _ _ _ (Nat.le_refl _) h0 ((hk.trans hk2).mono fun _ _ => trivial), hk2.boxed trivial HT2.out, hk2.boxed trivial HL2.out, (hk.trans hk2).boxed trivial hsb, (hk.trans hk2).cutAt trivial hc⟩
  have hszw : w.heap.size = W.heap.size + 4 := by omega
  clear HB2 HT2 HL2 hW2 c0 c1 c2 cs hc hsb h0 hB2 hsz
  have HPX : Hid (∀ pre x, pre ++ [x] <+: Ck.withAt 0 ls → pre ++ [x] <+: XS) := fun pre x h => by
    rw [hX]
    split
    · exact h
    · exact h.trans (List.prefix_append _ _)
  obtain ⟨B2, hB2⟩ : ∃ B2, B2 = W2.heap.size := ⟨_, rfl⟩
  rw [← hsz2, ← hB2] at hC2 hS2
  rw [← hB2]
  rw [← hB2] at hsz2
  clear hB2
  have HSZ2 : Hid (B2 = W.heap.size + 2) := hsz2
  have HSZW : Hid (w.heap.size = W.heap.size + 4) := hszw
  clear hsz2 hszw
  gi_wp2_with fail
  refine rf_outer (α := Nat × Ck.Bs) (m := 9) (gf := 169) (lb := #[.pointer (some ⟨B2, 0, none⟩), .pointer (some ⟨B2 + 1, 0, none⟩)]) rfl (enters_of Tryz.func169 (by kernel_rfl) rfl)
    (encs := encP) (xs := Ck.withAt 0 ls) (d := 0) (Kp := fun k => k = B2 ∨ k = B2 + 1)
    ?seq (by have z2 := HSZ2.out; have zw := HSZW.out; omega) (fun _ => rfl) (PcI W l J bc bs mn mx bt s) (fun c pre V => c = .ret ∧ Jx pre V) ?hI ?hIx HI0.out
    (fun x => { tmps := #[.func (.yield l) #[] #[], .pointer (some ⟨bc, 0, none⟩), .pointer (some ⟨bs, 0, none⟩), .pointer (some ⟨W.heap.size, 0, none⟩), .pointer (some ⟨W.heap.size + 1, 0, none⟩), .int .i64 (x.1 : Int), Sv x.2,
      .agg #[.int .i64 mn, .int .i64 mx, .int .i64 bt], .string s, .func (.func 169) #[] #[.pointer (some ⟨B2, 0, none⟩), .pointer (some ⟨B2 + 1, 0, none⟩)], .int .i64 (x.1 : Int), Sv x.2,
      undef, undef, undef, undef, undef, undef, undef, undef, undef, undef, undef, undef, undef, undef, undef, undef, undef, undef, undef, undef], defers := [] }) ?assign ?body ?done ?stop
  case seq =>
    intro W1 hb hz
    have hk : Kept (fun _ => True) w W1 := Kept.of_below hb
    have := ruled1_tells mn mx bt hb1 hb2 s hs W1 B2 (B2 + 1) (hk.cutAt trivial hC2) (hk.boxed trivial hS2)
    rw [hpc] at this
    exact this
  case hI =>
    rintro pre A V hA ⟨h1, h2, h3, h4, h5⟩ hk
    have z2 := HSZ2.out
    have zw := HSZW.out
    exact ⟨hJ _ _ _ (by omega) h1 (hk.mono fun k hk => by omega), hk.boxed (by omega) h2, hk.boxed (by omega) h3, hk.boxed (by omega) h4, hk.cutAt (by omega) h5⟩
  case hIx =>
    rintro c pre A V hA ⟨h1, h2⟩ hk
    have z2 := HSZ2.out
    have zw := HSZW.out
    exact ⟨h1, hJx _ _ _ (by omega) h2 (hk.mono fun k hk => by omega)⟩
  case assign =>
    intro l2 x V K hK
    simp only [encP]
    gi_wp2_with fail
    exact hK
  case body =>
    rintro l2 pre ⟨at', p⟩ V rfl hV hpre hi
    have HAT : Hid (at' = (pre.map (·.2)).flatten.length) := by
      obtain ⟨post, hp⟩ := hpre
      have := Ck.withAt_next (l := ls) (a := 0) (pre := pre) (x := (at', p)) (post := post) (by rw [← hp]; simp)
      show _ = _
      simpa using this
    have HI : Hid (PcI W l J bc bs mn mx bt s pre V) := hi
    obtain ⟨fn, tmps, assign, body, hy, hR⟩ := YieldAt.anyDepth' 8 (hY pre (at', p) V (by have zw := HSZW.out; omega) (HPX.out _ _ hpre) hi.j)
    have ct := hi.tell.cell
    obtain ⟨pb, hpb⟩ : ∃ pb : ByteArray, pb = ⟨p.toArray⟩ := ⟨_, rfl⟩
    have HLEN : Hid (pb.size = p.length) := by rw [hpb]; show _ = _; simp [ByteArray.size]
    have hle : pb.size ≤ 4096 := by
      obtain ⟨post, hp⟩ := hpre
      have h1 : p ∈ ls := by
        rw [← Ck.withAt_snd ls 0, ← hp]
        simp
      have h2 := congrArg List.length (Ck.pieces_join (E := Ck.ends mn mx bt Rl.ofL) s.data.toList)
      rw [hpc, List.length_append, ← Lib.size_eq] at h2
      have h4 := mem_flat h1
      rw [HLEN.out]
      dsimp only at h2
      omega
    have hatl : at' ≤ 4096 := by
      obtain ⟨post, hp⟩ := hpre
      rw [HAT.out]
      have h1 : (pre.map (·.2)).flatten.length ≤ ls.flatten.length := by
        rw [← Ck.withAt_snd ls 0, ← hp]
        simp
      have h2 := congrArg List.length (Ck.pieces_join (E := Ck.ends mn mx bt Rl.ofL) s.data.toList)
      rw [hpc, List.length_append, ← Lib.size_eq] at h2
      dsimp only at h2
      omega
    simp only [encP, Sv, ← hpb] at hy ⊢
    clear hpb hi hpre hV hX
    gi_wp2_with fail
    refine (RoundIn.inRound' _ hR).mono ?_
    rintro e V3 ⟨hk3, (⟨rfl, hJ3⟩ | ⟨rfl, hx3⟩)⟩
    · have HK3 : Hid (Kept (fun k => (k = bc ∨ k = bs) ∨ (W.heap.size ≤ k ∧ k < W.heap.size + 6)) V V3) := hk3
      have hl3 : Boxed V3 (W.heap.size + 1) 3 (.int .i64 ((pre.map (·.2)).flatten.length : Nat)) := hk3.boxed (.inr (by omega)) HI.out.left
      have cl3 := hl3.cell
      have fl3 := hl3.frozen
      have HL3 : Hid (Boxed V3 (W.heap.size + 1) 3 (.int .i64 ((pre.map (·.2)).flatten.length : Nat))) := hl3
      have HJ3 : Hid (J (pre ++ [(at', p)]) V3) := hJ3
      clear hl3 hk3 hJ3 hy hR ct
      gi_wp2_with fail
      have z2 := HSZ2.out
      have zw := HSZW.out
      have hi := HI.out
      have hk := HK3.out
      have hs3 := hk.size
      have hV : W.heap.size ≤ V.heap.size := by have := hi.tell.lt; omega
      refine ⟨(hk.mono fun k hk => by omega).setCell (by dsimp only; omega) _, ?_⟩
      refine ⟨hJ _ _ _ (by omega) HJ3.out ((Kept.refl _ _).setCell (by dsimp only; omega) _), (hk.boxed (.inr (by omega)) hi.tell).other (by omega) _, ?_, (hk.boxed (.inl (.inr rfl)) hi.str).other (by omega) _, ?_⟩
      · have := HL3.out.set (.int .i64 ((at' : Int) + (pb.size : Int)))
        rw [HLEN.out, HAT.out] at this
        rw [HLEN.out, HAT.out]
        simpa using this
      · exact ((Kept.refl (fun k => k ≠ W.heap.size + 1) V3).setCell (fun h => h rfl) _).cutAt (show bc ≠ _ by omega) (hk.cutAt (.inl (.inl rfl)) hi.cut)
    · have HK3 : Hid (Kept (fun k => (k = bc ∨ k = bs) ∨ (W.heap.size ≤ k ∧ k < W.heap.size + 6)) V V3) := hk3
      clear hk3 hy hR ct
      gi_wp2_with fail
      have z2 := HSZ2.out
      have zw := HSZW.out
      exact ⟨HK3.out.mono fun k hk => by omega, rfl, hx3⟩
  case done =>
    intro V hV hi hK
    have hlen : ls.flatten.length + q.length = s.size := by
      have h2 := congrArg List.length (Ck.pieces_join (E := Ck.ends mn mx bt Rl.ofL) s.data.toList)
      rw [hpc, List.length_append, ← Lib.size_eq] at h2
      exact h2
    have HI : Hid (PcI W l J bc bs mn mx bt s (Ck.withAt 0 ls) V) := hi
    have HK : Hid (V.heap[w.heap.size]? = some (Obj.deferred (some []))) := hK
    have hl := hi.left
    rw [Ck.withAt_snd] at hl
    have cl := hl.cell
    have cs := hi.str.cell
    have ct := hi.tell.cell
    generalize hA : ls.flatten.length = A at *
    have HL : Hid (Boxed V (W.heap.size + 1) 3 (.int .i64 (A : Int))) := hl
    clear hl hi hK HI0 hC2 hS2
    by_cases hq : q = []
    · have hn : ¬ A < s.size := by rw [hq] at hlen; simp at hlen; omega
      have HX : Hid (XS = Ck.withAt 0 ls) := by show _ = _; rw [hX, if_pos hq]
      clear hX hlen
      gi_wp2_with fail
      refine ⟨by simp, .inl ⟨_, _, rfl, run_takeDeferred HK.out, ?_⟩⟩
      have zw := HSZW.out
      refine ⟨_, results_none rfl _ _ _, ⟨_, rfl⟩, by rw [World.putObj_size]; omega, .inl ?_⟩
      rw [HX.out]
      exact hJ _ _ _ (by omega) HI.out.j ((Kept.refl _ _).putObj (by omega) _)
    · have hn : A < s.size := by have := List.length_pos_iff.2 hq; omega
      have HX : Hid (XS = Ck.withAt 0 ls ++ [(A, q)]) := by show _ = _; rw [hX, if_neg hq]
      have HE : Hid (encP (A, q) = #[.int .i64 (A : Int), .string (s.extract A s.size)]) := by
        show _ = _
        have hj := Ck.pieces_join (E := Ck.ends mn mx bt Rl.ofL) s.data.toList
        rw [hpc] at hj
        have : s.data.toList.drop A = q := by rw [← hj, ← hA, List.drop_left]
        rw [encP, Sv, ← this, ← drop_ext]
      have HY : Hid (∀ V2, Below V.heap.size V V2 → YieldAt Fence.wide 8 Tryz.prog l #[.int .i64 (A : Int), .string (s.extract A s.size)] V2 fun e W' =>
          ∃ bb, e = .returned (.bool bb) ∧ Kept (fun k => (k = bc ∨ k = bs) ∨ (W.heap.size ≤ k ∧ k < W.heap.size + 6)) V2 W' ∧ Hid (J XS W' ∨ Jx XS W')) := fun V2 hb => by
        have hs2 := hb.size
        have zw := HSZW.out
        have := hY (Ck.withAt 0 ls) (A, q) V2 (by omega) (by rw [HX.out]; exact List.prefix_rfl) (hJ _ _ _ (by omega) HI.out.j (Kept.of_below hb))
        rw [HE.out, ← HX.out] at this
        refine YieldAt.anyDepth' 8 (YieldAt.mono this ?_)
        rintro e W' ⟨hk, (⟨he, h⟩ | ⟨he, h⟩)⟩
        · exact ⟨true, he, hk, .inl h⟩
        · exact ⟨false, he, hk, .inr h⟩
      have hcl := fun V => ck_clone_any (s.extract A s.size) V (by rw [ByteArray.size_extract]; omega)
      generalize hpe : s.extract A s.size = piece at *
      have hmx : Tryz.prog.follows .mixedOrders = true := by kernel_rfl
      clear hX hlen hY
      gi_wp2_with fail
      have ct2 : ∀ X : Since V.heap.size V, X.val.cell? ⟨W.heap.size, 0, none⟩ = some (.func (.yield l) #[] #[]) := fun X => (X.property.cell (p := ⟨W.heap.size, 0, none⟩) HI.out.tell.lt).trans ct
      have cl2 : ∀ X : Since V.heap.size V, X.val.cell? ⟨W.heap.size + 1, 0, none⟩ = some (.int .i64 (A : Int)) := fun X => (X.property.cell (p := ⟨W.heap.size + 1, 0, none⟩) HL.out.lt).trans cl
      have cs2 : ∀ X : Since V.heap.size V, X.val.cell? ⟨bs, 0, none⟩ = some (.string s) := fun X => (X.property.cell (p := ⟨bs, 0, none⟩) HI.out.str.lt).trans cs
      have hne : Nonempty (Since V.heap.size V) := ⟨⟨V, Below.refl _ _⟩⟩
      refine wpIn_region_last (B := V.heap.size) (W0 := V) 6 _ rfl hmx (by kernel_rfl) (by kernel_rfl) (by kernel_rfl) (by kernel_rfl) (Below.refl _ _) ?_
      simp only [List.modify_succ_cons, List.modify_zero_cons, mute]
      repeat (go_big_quiet_step (fail))
      go_big_quiet_step (exact quiet_since _ (hcl _))
      repeat (go_big_quiet_step (fail))
      refine wpQuiet_nil ?_
      rintro w2 ⟨U, rfl⟩
      have hb2 := U.property
      obtain ⟨fn, tmps, assign, body, hy, hR⟩ := HY.out U.val hb2
      generalize U.val = w2 at *
      unfold wpOpIn
      simp only [List.getElem?_toArray, List.getElem?_cons_succ, List.getElem?_cons_zero, Region.wanted, if_true]
      refine ⟨fun _ _ => trivial, ?_⟩
      rw [show Fence.wide.round = none from rfl, Oper.semAt_none]
      go_simp
      refine hR.mono ?_
      rintro e w3 ⟨bb, rfl, hk3, hfin⟩
      have zw := HSZW.out
      have hlt : w.heap.size < V.heap.size := (Array.getElem?_eq_some_iff.1 HK.out).1
      have hK2 : w2.heap[w.heap.size]? = some (Obj.deferred (some [])) := (hb2.block _ hlt).trans HK.out
      have hK3 : w3.heap[w.heap.size]? = some (Obj.deferred (some [])) := hk3.obj (.inr (by omega)) hK2
      have hs3 := hk3.size
      have hs2 := hb2.size
      refine ⟨by simp, .inl ⟨_, _, rfl, run_takeDeferred hK3, ?_⟩⟩
      refine ⟨_, results_none rfl _ _ _, ⟨_, rfl⟩, by rw [World.putObj_size]; omega, ?_⟩
      rcases hfin.out with h | h
      · exact .inl (hJ _ _ _ (by omega) h ((Kept.refl _ _).putObj (by omega) _))
      · exact .inr ⟨XS, List.prefix_rfl, hJx _ _ _ (by omega) h ((Kept.refl _ _).putObj (by omega) _)⟩
  case stop =>
    rintro c pre V hV hpre ⟨rfl, hx⟩ hK
    gi_wp2_with fail
    refine ⟨by simp, .inl ⟨_, _, rfl, run_takeDeferred hK, ?_⟩⟩
    have zw := HSZW.out
    refine ⟨_, results_none rfl _ _ _, ⟨_, rfl⟩, by rw [World.putObj_size]; omega, .inr ⟨pre, ?_, hJx _ _ _ (by omega) hx ((Kept.refl _ _).putObj (by omega) _)⟩⟩
    rw [hX]
    split
    · exact hpre
    · exact hpre.trans (List.prefix_append _ _)
theorem withAt_cut {E : Ck.Bs → Bool} {t : Ck.Bs} {ls : List Ck.Bs} {q : Ck.Bs} (h : Ck.pieces E t = (ls, q)) : Ck.withAt 0 (Ck.cut E t) = if q = [] then Ck.withAt 0 ls else Ck.withAt 0 ls ++ [(ls.flatten.length, q)] := by
  rw [Ck.cut_of h]
  split
  · rfl
  · rw [Ck.withAt_append, Nat.zero_add]; rfl
theorem pieces1_all (mn mx bt : Nat) (hb1 : 1 ≤ bt) (hb2 : bt ≤ 12) (s : ByteArray) (hs : s.size ≤ 4096) (W : World) (bc bs : Nat) (hc : CutAt W bc mn mx bt) (hsb : Boxed W bs 9 (.string s)) :
    Tells Tryz.prog 159 #[.pointer (some ⟨bc, 0, none⟩), .pointer (some ⟨bs, 0, none⟩)] encP (Ck.withAt 0 (Ck.cut (Ck.ends mn mx bt Rl.ofL) s.data.toList)) 6 (fun k => k = bc ∨ k = bs) W := by
  obtain ⟨ls, q, h⟩ : ∃ ls q, Ck.pieces (Ck.ends mn mx bt Rl.ofL) s.data.toList = (ls, q) := ⟨_, _, rfl⟩
  exact pieces1_tells mn mx bt hb1 hb2 s hs W bc bs hc hsb ls q _ h (withAt_cut h)

set_option maxHeartbeats 400000 in
theorem pieces_any (mn mx bt : Int) (s : ByteArray) (w : World) :
    Calls Tryz.prog 143 #[cutV mn mx bt, .string s] w fun e w' => e = .returned (.func (.func 159) #[] #[.pointer (some ⟨w.heap.size, 0, none⟩), .pointer (some ⟨w.heap.size + 1, 0, none⟩)]) ∧
      CutAt w' w.heap.size mn mx bt ∧ Boxed w' (w.heap.size + 1) 9 (.string s) ∧ Below w.heap.size w w' ∧ w'.heap.size = w.heap.size + 2 := by
  unfold cutV
  go_enter Tryz.func143, Tryz.ntmps143
  go_wp2
  go_ret
  refine ⟨rfl, ?_, ?_, ((Below.refl _ w).alloc (Nat.le_refl _) _).alloc (by simp) _, by simp⟩
  · exact (Below.heap_alloc _ _ _ (by simp)).trans (World.alloc_heap_new w _)
  · have := World.alloc_heap_new (w.alloc (.cells #[.int .i64 mn, .int .i64 mx, .int .i64 bt] 23)) (.cells #[.string s] 9)
    rwa [World.size_alloc] at this
end Go.Proofs.YtimdioacmojkeaaGreatDoor

namespace Go.Proofs.YtimdioacmojkeaaGreatDoor
open Go.RowKit Go.Shelf

attribute [local go_sem] Oper.semAt_some
/-- 'l = append(l, p)', l a variable in a box -/
theorem box_appended {W w1 : World} {base B : Nat} {t e : TypeId} {size : Nat} {v v' : Value} {k m : Nat} {xs ys : List Value} {tmp : Obj} {p : Nat → Prop} (hv : Boxed W B t v) (hB : B < base)
    (hrow : W.ownsRow base e size v k xs) (hown' : w1.ownsRow base e size v' m ys) (hgrow : (W.alloc tmp).grownBy w1 v.ownBlock) (hp : ∀ k, p k → k ≠ B ∧ k < base) :
    Boxed w1 B t v ∧ Boxed (w1.setCell ⟨B, 0, none⟩ v') B t v' ∧ (w1.setCell ⟨B, 0, none⟩ v').ownsRow base e size v' m ys ∧ Kept p W (w1.setCell ⟨B, 0, none⟩ v') := by
  have hne : some B ≠ v.ownBlock := fun h => by have := (hrow.lt B h.symm).1; omega
  have hv1 : Boxed w1 B t v := (hv.alloc tmp).kept hgrow hne
  refine ⟨hv1, hv1.set v', ownsRow_setCell_below hown' hB v', ?_⟩
  refine (((Kept.refl p W).alloc tmp).grown hgrow fun j ej hpj => ?_).setCell (fun h => (hp _ h).1 rfl) v'
  have h1 := (hrow.lt j ej).1
  have h2 := (hp j hpj).2
  omega

theorem ck_own_kept {p : Nat → Prop} {A B : World} {base : Nat} {e : TypeId} {k : Nat} {v : Value} {n : Nat} {xs : List Value} (h : A.ownsRow base e k v n xs) (hk : Kept p A B) (hp : ∀ g, base ≤ g → p g) : B.ownsRow base e k v n xs := by
  obtain ⟨h1, h2⟩ := h
  refine ⟨h1, ?_⟩
  rcases h2 with h2 | ⟨g, cap, cur, hv, hg, hh, r⟩
  · exact .inl h2
  · exact .inr ⟨g, cap, cur, hv, hg, hk.obj (hp g hg) hh, r⟩
/-- pieces that were collected in a variable -/
structure Got (n₀ : Nat) (w : World) (base bl : Nat) (l : List Ck.Bs) (V : World) : Prop where
  box : ∃ v, Boxed V bl 62 v ∧ V.ownsRow base 9 1 v l.length (l.map Sv)
  bel : Below n₀ w V
theorem Got.kept {p : Nat → Prop} {n₀ base bl : Nat} {w A B : World} {l : List Ck.Bs} (h : Got n₀ w base bl l A) (hk : Kept p A B) (hb : p bl) (hp : ∀ g, base ≤ g → p g) (hn : ∀ k, k < n₀ → p k) (hs : n₀ ≤ A.heap.size) : Got n₀ w base bl l B := by
  obtain ⟨⟨v, h1, h2⟩, h3⟩ := h
  exact ⟨⟨v, hk.boxed hb h1, ck_own_kept h2 hk hp⟩, h3.trans (hk.below hs hn)⟩

set_option maxRecDepth 100000 in
set_option maxHeartbeats 2000000 in
theorem cut_ok (mn mx bt : Nat) (hO : OkCut mn mx bt) (s : ByteArray) (hs : s.size ≤ 4096) (w : World) (L : List Ck.Bs) (hL : L = Ck.cut (Ck.ends mn mx bt Rl.ofL) s.data.toList) (hLl : L.length ≤ 4096) :
    Calls Tryz.prog 122 #[cutV mn mx bt, .string s] w fun e w' => ∃ v, e = .returned (.tuple #[v, .int .i64 0]) ∧ w'.ownsRow w.heap.size 9 1 v L.length (L.map Sv) ∧ Below w.heap.size w w' := by
  obtain ⟨i0, hi, hz0, hz1, hz2⟩ := info_parts info_str
  have hsz := size_any mn mx bt s.size
  rw [sizeN_zero.2 ⟨hO, by omega⟩] at hsz
  have hpa := pieces_any mn mx bt s
  unfold cutV at hsz hpa ⊢
  obtain ⟨W4, hW4⟩ : ∃ W4, W4 = w.alloc (Obj.cells #[Value.int IntKind.i64 mn, Value.int IntKind.i64 mx, Value.int IntKind.i64 bt] 23) := ⟨_, rfl⟩
  have hlw : w.heap.size < W4.heap.size := by rw [hW4]; simp
  have HB : Hid (Below w.heap.size w W4) := by rw [hW4]; exact (Below.refl _ w).alloc (Nat.le_refl _) _
  have HC : Hid (CutAt W4 w.heap.size mn mx bt) := by rw [hW4]; exact World.alloc_heap_new w _
  refine (callsIn_wide (n := 9)).1 ?_
  refine callsIn_of_wp_marks Tryz.func122 rfl trivial ?_ rfl
  simp only [Tryz.ntmps122, List.size_toArray, List.length_cons, List.length_nil, Nat.reduceAdd, Nat.reduceSub, Array.replicate_succ, Array.replicate_zero, List.push_toArray, List.append_toArray, List.nil_append, List.cons_append]
  gi_wp2_with fail
  rw [← hW4]
  refine ⟨trivial, (callsIn_wide.2 (hsz _)).mono ?_⟩
  rintro e w1 ⟨rfl, hb1⟩
  have hc1 : CutAt w1 w.heap.size mn mx bt := HC.out.kept (Kept.of_below (p := fun _ => True) hb1) trivial
  have HB1 : Hid (Below w.heap.size w w1) := HB.out.trans (hb1.mono (by omega))
  have hl1 : w.heap.size < w1.heap.size := by have := hb1.size; omega
  have c0 := hc1.c0
  have c1 := hc1.c1
  have c2 := hc1.c2
  obtain ⟨w1a, hw1a⟩ : ∃ w1a, w1a = w1.alloc (.cells #[.slice none 0 0] 62) := ⟨_, rfl⟩
  have HBX : Hid (Boxed w1a w1.heap.size 62 (.slice none 0 0)) := by rw [hw1a]; exact Boxed.new _ _ _
  have HB1a : Hid (Below w.heap.size w w1a) := by rw [hw1a]; exact HB1.out.alloc (by omega) _
  have HSZ : Hid (w1a.heap.size = w1.heap.size + 1) := by rw [hw1a]; simp [Hid]
  clear hb1 hc1 HB HC hsz HB1 hW4 hlw
  gi_wp2_with fail
  rw [← hw1a]
  refine ⟨trivial, (callsIn_wide.2 (hpa _)).mono ?_⟩
  rintro e w2 ⟨rfl, hC2, hS2, hb2, hsz2⟩
  obtain ⟨bc, hbc⟩ : ∃ bc, bc = w1a.heap.size := ⟨_, rfl⟩
  obtain ⟨bl, hbl⟩ : ∃ bl, bl = w1.heap.size := ⟨_, rfl⟩
  have HS : Hid (w.heap.size < bl ∧ bc = bl + 1 ∧ w2.heap.size = bl + 3) := by
    have := HSZ.out
    refine ⟨by omega, by omega, by omega⟩
  rw [← hbc] at hC2 hS2 ⊢
  have HI0 : Hid (Got w.heap.size w (w2.heap.size + 8) bl [] w2) := by
    refine ⟨⟨_, (Kept.of_below (p := fun _ => True) hb2).boxed trivial (by rw [hbl]; exact HBX.out), World.ownsRow_nil _ _ _ _⟩, HB1a.out.trans (hb2.mono HB1a.out.size)⟩
  rw [← hbl]
  clear hbc hbl HB1a HBX HSZ hw1a hb2 hsz2 c0 c1 c2 hpa hl1
  gi_wp2_with fail
  refine rf_outer (α := Nat × Ck.Bs) (m := 9) (gf := 159) (lb := #[.pointer (some ⟨bc, 0, none⟩), .pointer (some ⟨bc + 1, 0, none⟩)]) rfl (enters_of Tryz.func159 (by kernel_rfl) rfl)
    (encs := encP) (xs := Ck.withAt 0 L) (d := 6) (Kp := fun k => k = bc ∨ k = bc + 1)
    ?seq (by have z := HS.out; omega) (fun _ => rfl) (fun pre V => Got w.heap.size w (w2.heap.size + 8) bl (pre.map (·.2)) V) (fun _ _ _ => False) ?hI (fun _ _ _ _ _ h _ => h) HI0.out
    (fun x => { tmps := #[.agg #[.int .i64 mn, .int .i64 mx, .int .i64 bt], .string s, .pointer (some ⟨w.heap.size, 0, none⟩), undef, .slice none 0 0, .int .i64 0, .int .i64 0, .pointer (some ⟨bl, 0, none⟩), undef, Sv x.2,
      .agg #[.int .i64 mn, .int .i64 mx, .int .i64 bt], .string s, .int .i64 s.size, .int .i64 0, .int .i64 0, .bool false, undef, .agg #[.int .i64 mn, .int .i64 mx, .int .i64 bt], .string s,
      .func (.func 159) #[] #[.pointer (some ⟨bc, 0, none⟩), .pointer (some ⟨bc + 1, 0, none⟩)], .int .i64 (x.1 : Int), Sv x.2, undef, undef, undef, undef, undef], defers := [] }) ?assign ?body ?done ?stop
  case seq =>
    intro W1 hb hz
    have hk : Kept (fun _ => True) w2 W1 := Kept.of_below hb
    rw [hL]
    obtain ⟨_, _, _, h4, h5⟩ := hO
    exact pieces1_all mn mx bt (by omega) (by omega) s hs W1 bc (bc + 1) (hk.cutAt trivial hC2) (hk.boxed trivial hS2)
  case hI =>
    intro pre A V hA hg hk
    have z := HS.out
    exact hg.kept hk (by omega) (fun g hg => by omega) (fun k hk => by omega) (by omega)
  case assign =>
    intro l2 x V K hK
    simp only [encP]
    gi_wp2_with fail
    exact hK
  case body =>
    rintro l2 pre ⟨at', p⟩ V rfl hV hpre hg
    obtain ⟨pb, hpb⟩ : ∃ pb : ByteArray, pb = ⟨p.toArray⟩ := ⟨_, rfl⟩
    have HP : Hid (pb.data.toList = p) := by rw [hpb]; show _ = _; simp
    have hpl : (pre.map (·.2)).length ≤ 4096 := by
      have := hpre.length_le
      rw [Ck.withAt_length, List.length_append, List.length_singleton] at this
      rw [List.length_map]
      omega
    obtain ⟨⟨v, hv, hrow⟩, hbel⟩ := hg
    have hvc := hv.cell
    simp only [Sv, ← hpb]
    have HPE : Hid ((pre ++ [(at', p)]).map (·.2) = pre.map (·.2) ++ [pb.data.toList]) := by show _ = _; rw [HP.out]; simp
    generalize pre.map (·.2) = l at *
    clear hpb hpre HI0 hC2 hS2
    gi_wp2_with (gi_at_builtin; refine wpListIn_append_own _ rfl _ _ 62 rfl (w2.heap.size + 8) 9 i0 (.string ⟨#[]⟩) 1 16 Tryz.underlying62 hi hz0 hz1 hz2 rfl (by decide) _ _ _ rfl (hrow.alloc _) ⟨V.heap.size, 0, none⟩ 1 1 [.string pb] rfl rfl ?c1 ?c2 ?c3 ?c4 ?c5 ?_)
    case c1 =>
      intro j u hj
      match j, hj with
      | 0, hj => simp at hj; subst hj; simp [Addr.add]
    case c2 => intro u hu; simp at hu; subst hu; rfl
    case c3 => unfold maxLen; omega
    case c4 => omega
    case c5 => simp; omega
    intro v' w5 hown1 hgrow _
    have hss := HS.out
    obtain ⟨hv1, hv2, hr2, hk2⟩ := box_appended (p := fun k => k = w2.heap.size ∨ k = w2.heap.size + 1 ∨ ((k = bc ∨ k = bc + 1) ∨ (w2.heap.size + 2 ≤ k ∧ k < w2.heap.size + 2 + 6))) hv (by omega) hrow hown1 hgrow (fun k hk => by omega)
    obtain ⟨_, _, _, hk3⟩ := box_appended (p := fun k => k < w.heap.size) hv (by omega) hrow hown1 hgrow (fun k hk => by omega)
    have HK2 : Hid (Kept (fun k => k = w2.heap.size ∨ k = w2.heap.size + 1 ∨ ((k = bc ∨ k = bc + 1) ∨ (w2.heap.size + 2 ≤ k ∧ k < w2.heap.size + 2 + 6))) V (w5.setCell ⟨bl, 0, none⟩ v')) := hk2
    have HB5 : Hid (Below w.heap.size w (w5.setCell ⟨bl, 0, none⟩ v')) := hbel.trans (hk3.below hbel.size (fun k hk => hk))
    obtain ⟨g', cap', rfl⟩ := ownsRow_succ hown1
    have hc1 := hv1.cell
    have hf1 := hv1.frozen
    have HR : Hid ((w5.setCell ⟨bl, 0, none⟩ (.slice (some ⟨g', 0, none⟩) (l.length + 1) cap')).ownsRow (w2.heap.size + 8) 9 1 (.slice (some ⟨g', 0, none⟩) (l.length + 1) cap') (l ++ [pb.data.toList]).length ((l ++ [pb.data.toList]).map Sv)) := by
      have := hr2
      simpa [Sv, Hid] using this
    have HV : Hid (Boxed (w5.setCell ⟨bl, 0, none⟩ (.slice (some ⟨g', 0, none⟩) (l.length + 1) cap')) bl 62 (.slice (some ⟨g', 0, none⟩) (l.length + 1) cap')) := hv2
    clear hss hk2 hk3 hr2 hv2 hown1 hgrow hv1 hbel hrow hv hvc
    gi_wp2_with fail
    exact ⟨HK2.out, by show Got _ _ _ _ ((pre ++ [(at', p)]).map (·.2)) _; rw [HPE.out]; exact ⟨⟨_, HV.out, HR.out⟩, HB5.out⟩⟩
  case done =>
    intro V hV hg hK
    clear hL
    rw [Ck.withAt_snd] at hg
    obtain ⟨⟨v, hv, hrow⟩, hbel⟩ := hg
    have hvc := hv.cell
    have HR : Hid (V.ownsRow (w2.heap.size + 8) 9 1 v L.length (L.map Sv)) := hrow
    have HB : Hid (Below w.heap.size w V) := hbel
    have HK : Hid (V.heap[w2.heap.size]? = some (Obj.deferred (some []))) := hK
    rcases hrow.2 with ⟨rfl, h0⟩ | ⟨g, cap, cur, rfl, _⟩
    · clear hrow hbel hK hv HI0 hC2 hS2
      gi_wp2_with fail
      refine ⟨by simp, .inl ⟨_, _, rfl, run_takeDeferred HK.out, ?_⟩⟩
      have z := HS.out
      refine ⟨_, results_tmp2 rfl _ _ _, _, rfl, own_lower (ck_own_kept HR.out ((Kept.refl (fun k => k ≠ w2.heap.size) _).putObj (fun h => h rfl) _) (fun g hg => by omega)) (by omega), HB.out.trans (((Kept.refl (fun k => k ≠ w2.heap.size) _).putObj (fun h => h rfl) _).below HB.out.size (fun k hk => by omega))⟩
    · clear hrow hbel hK hv HI0 hC2 hS2
      gi_wp2_with fail
      refine ⟨by simp, .inl ⟨_, _, rfl, run_takeDeferred HK.out, ?_⟩⟩
      have z := HS.out
      refine ⟨_, results_tmp2 rfl _ _ _, _, rfl, own_lower (ck_own_kept HR.out ((Kept.refl (fun k => k ≠ w2.heap.size) _).putObj (fun h => h rfl) _) (fun g hg => by omega)) (by omega), HB.out.trans (((Kept.refl (fun k => k ≠ w2.heap.size) _).putObj (fun h => h rfl) _).below HB.out.size (fun k hk => by omega))⟩
  case stop =>
    intro c pre V _ _ h _
    exact h.elim
set_option maxHeartbeats 1000000 in
theorem cut_no (mn mx bt : Int) (s : ByteArray) (w : World) (k : Int) (hk : sizeN mn mx bt s.size = k) (h0 : k ≠ 0) :
    Calls Tryz.prog 122 #[cutV mn mx bt, .string s] w fun e w' => e = .returned (.tuple #[.slice none 0 0, .int .i64 k]) ∧ Below w.heap.size w w' := by
  have hsz := size_any mn mx bt s.size
  rw [hk] at hsz
  have hq : (k != 0) = true := by rw [bne_iff_ne]; exact h0
  clear hk
  unfold cutV at hsz ⊢
  go_enter Tryz.func122, Tryz.ntmps122
  go_wp2_with fail
  refine (hsz _).mono ?_
  rintro e w1 ⟨rfl, hb1⟩
  have hB1 := below_past hb1
  clear hb1
  go_wp2_with fail
  go_ret2
  exact ⟨rfl, hB1⟩
theorem cutL_le (mn mx bt : Nat) (h1 : 1 ≤ mn) (hm : mn ≤ mx) (s : ByteArray) (hs : s.size ≤ 4096) : (Ck.cut (Ck.ends mn mx bt Rl.ofL) s.data.toList).length ≤ 4096 := by
  have hj := congrArg List.length (Ck.cut_join (E := Ck.ends mn mx bt Rl.ofL) s.data.toList)
  rw [← Lib.size_eq] at hj
  have hp := fun j hj => Ck.cut_size (mn := mn) (mx := mx) (bits := bt) (sum := Rl.ofL) (by omega) hm s.data.toList (j := j) hj
  generalize Ck.cut (Ck.ends mn mx bt Rl.ofL) s.data.toList = l at *
  have key : ∀ l : List Ck.Bs, (∀ p ∈ l, 1 ≤ p.length) → l.length ≤ l.flatten.length := by
    intro l
    induction l with
    | nil => intro _; simp
    | cons p l ih =>
      intro h
      have a := ih (fun p hp => h p (List.mem_cons_of_mem _ hp))
      have b := h p (List.mem_cons_self)
      rw [List.flatten_cons, List.length_append, List.length_cons]; omega
  have := key l (fun p hm => by
    obtain ⟨j, hj, rfl⟩ := List.mem_iff_getElem.1 hm
    exact (hp j hj).1)
  omega
theorem ck_cut_any (mn mx bt : Int) (s : ByteArray) (w : World) :
    Calls Tryz.prog 122 #[cutV mn mx bt, .string s] w fun e w' => ∃ v, e = .returned (.tuple #[v, .int .i64 (sizeN mn mx bt s.size)]) ∧
      w'.ownsRow w.heap.size 9 1 v (cutL mn mx bt s).length ((cutL mn mx bt s).map Sv) ∧ Below w.heap.size w w' := by
  by_cases h : sizeN mn mx bt s.size = 0
  · obtain ⟨hO, hs⟩ := sizeN_zero.1 h
    rw [cutL, if_pos h, h]
    obtain ⟨mn, rfl⟩ := Int.eq_ofNat_of_zero_le (show 0 ≤ mn by have := hO.1; omega)
    obtain ⟨mx, rfl⟩ := Int.eq_ofNat_of_zero_le (show 0 ≤ mx by have := hO.1; have := hO.2.1; omega)
    obtain ⟨bt, rfl⟩ := Int.eq_ofNat_of_zero_le (show 0 ≤ bt by have := hO.2.2.2.1; omega)
    simp only [Int.toNat_natCast]
    exact cut_ok mn mx bt hO s (by omega) w _ rfl (cutL_le mn mx bt (by have := hO.1; omega) (by have := hO.2.1; omega) s (by omega))
  · rw [cutL, if_neg h]
    refine (cut_no mn mx bt s w _ rfl h).mono ?_
    rintro e w' ⟨rfl, hb⟩
    exact ⟨_, rfl, World.ownsRow_nil _ _ _ _, hb⟩
end Go.Proofs.YtimdioacmojkeaaGreatDoor

namespace Go.Proofs.YtimdioacmojkeaaGreatDoor
open Go.RowKit
set_option maxRecDepth 4000

def fixN (n len : Int) : Int := if n < 1 ∨ 1024 < n then 1 else if len ≤ 4096 then 0 else 2
def fixL (n : Int) (s : ByteArray) : List Ck.Bs := if fixN n s.size = 0 then Ck.fixed n.toNat s.data.toList else []

theorem fix_at (n : Nat) (s : ByteArray) (k : Nat) : (s.extract (k * n) (min (k * n + n) s.size)).data.toList = (s.data.toList.drop (k * n)).take n := by
  rw [ext_eq]
  show List.take _ _ = _
  by_cases h : k * n + n ≤ s.size
  · rw [Nat.min_eq_left h, show k * n + n - k * n = n from by omega]
  · rw [Nat.min_eq_right (by omega), List.take_of_length_le (by rw [List.length_drop, ← Lib.size_eq]; exact Nat.le_refl _), List.take_of_length_le (by rw [List.length_drop, ← Lib.size_eq]; omega)]

set_option maxHeartbeats 1000000 in
theorem rfixed_of (n m : Nat) (F : Nat → List Ck.Bs) (s : ByteArray) (w : World) (h1 : 1 ≤ n) (h2 : n ≤ 1024) (hs : s.size ≤ 4096)
    (hm : ∀ k, k < m ↔ k * n < s.size) (hF0 : F 0 = []) (hFl : ∀ k, (F k).length = k) (hFs : ∀ k, F (k + 1) = F k ++ [(s.extract (k * n) (min (k * n + n) s.size)).data.toList]) :
    Calls Tryz.prog 70 #[.int .i64 n, .string s] w fun e w' => ∃ v, e = .returned (.tuple #[v, .int .i64 0]) ∧ w'.ownsRow w.heap.size 9 1 v (F m).length ((F m).map Sv) ∧ Below w.heap.size w w' := by
  obtain ⟨i0, hi, hz0, hz1, hz2⟩ := info_parts info_str
  go_enter Tryz.func70, Tryz.ntmps70
  go_wp2_with fail
  go_loopw [6, 7] (fun v i wr => ∃ k A : Nat, k ≤ m ∧ Hid (A = k * n) ∧ i = .int .i64 A ∧ wr.ownsRow w.heap.size 9 1 v (F k).length ((F k).map Sv) ∧ Below w.heap.size w wr) (fun _ i _ => s.size - (intOf i).toNat)
  case atStart => exact ⟨0, 0, Nat.zero_le _, by show 0 = _; omega, rfl, by rw [hF0]; exact World.ownsRow_nil _ _ _ _, Below.refl _ _⟩
  case round =>
    obtain ⟨k, A, hk, HA, rfl, hown, hbel⟩ := hrel
    have hbs := hbel.size
    by_cases hlt : k < m
    · have hA : A < s.size := by rw [HA.out]; exact (hm k).1 hlt
      have hAk : k ≤ A := by rw [HA.out]; exact Nat.le_mul_of_pos_right k (by omega)
      obtain ⟨D, hD⟩ : ∃ D, D = min (A + n) s.size := ⟨_, rfl⟩
      have hmin : min ((A : Int) + (n : Int)) (s.size : Int) = (D : Int) := by omega
      have hD1 : A ≤ D := by omega
      have hD2 : D ≤ s.size := by omega
      have HF : Hid (F (k + 1) = F k ++ [(s.extract A D).data.toList]) := by show _ = _; rw [hD, HA.out]; exact hFs k
      have HA1 : Hid (A + n = (k + 1) * n) := by show _ = _; rw [Nat.succ_mul, ← HA.out]
      have hFk : (F k).length ≤ k := Nat.le_of_eq (hFl k)
      generalize F k = L at *
      clear hm hFs hFl hD
      generalize hpe : s.extract A D = piece at *
      go_wp2_with (at_builtin; refine wpList_append_own _ rfl _ _ 62 rfl w.heap.size 9 i0 (.string ⟨#[]⟩) 1 16 Tryz.underlying62 hi hz0 hz1 hz2 rfl (by decide) _ _ _ rfl (hown.alloc _) ⟨wr.heap.size, 0, none⟩ 1 1 [.string piece] rfl rfl ?c1 ?c2 ?c3 ?c4 ?c5 ?_)
      case c1 =>
        intro j u hj
        match j, hj with
        | 0, hj => simp at hj; subst hj; simp [Addr.add]
      case c2 => intro u hu; simp at hu; subst hu; rfl
      case c3 => unfold maxLen; omega
      case c4 => omega
      case c5 => simp; omega
      intro v' w1 hown1 hgrow _
      have R := own_str hown hown1 hgrow hbel (Nat.le_refl _)
      have HR1 : Hid (w1.ownsRow w.heap.size 9 1 v' (F (k + 1)).length ((F (k + 1)).map Sv)) := by rw [HF.out]; exact R.1
      have HR2 : Hid (Below w.heap.size w w1) := R.2
      clear R hown1 hgrow hown hbel
      go_wp2_with fail
      go_roundw
      case rel => exact ⟨k + 1, A + n, by omega, HA1, by go_num, HR1.out, HR2.out⟩
      case measure => simp only [intOf]; omega
    · obtain rfl : k = m := by omega
      have hA : s.size ≤ A := by
        rw [HA.out]
        have := (hm k).2
        omega
      go_wp2_with fail
      go_ret2
      exact ⟨_, rfl, hown, hbel⟩

set_option maxHeartbeats 1000000 in
theorem fixed_of (n m : Nat) (F : Nat → List Ck.Bs) (s : ByteArray) (w : World) (h1 : 1 ≤ n) (h2 : n ≤ 1024) (hs : s.size ≤ 4096)
    (hm : ∀ k, k < m ↔ k * n < s.size) (hF0 : F 0 = []) (hFl : ∀ k, (F k).length = k) (hFs : ∀ k, F (k + 1) = F k ++ [(s.extract (k * n) (min (k * n + n) s.size)).data.toList]) :
    Calls Tryz.prog 123 #[.int .i64 n, .string s] w fun e w' => ∃ v, e = .returned (.tuple #[v, .int .i64 0]) ∧ w'.ownsRow w.heap.size 9 1 v (F m).length ((F m).map Sv) ∧ Below w.heap.size w w' := by
  obtain ⟨i0, hi, hz0, hz1, hz2⟩ := info_parts info_str
  go_enter Tryz.func123, Tryz.ntmps123
  go_wp2_with fail
  go_loopw [6, 7] (fun v i wr => ∃ k A : Nat, k ≤ m ∧ Hid (A = k * n) ∧ i = .int .i64 A ∧ wr.ownsRow w.heap.size 9 1 v (F k).length ((F k).map Sv) ∧ Below w.heap.size w wr) (fun _ i _ => s.size - (intOf i).toNat)
  case atStart => exact ⟨0, 0, Nat.zero_le _, by show 0 = _; omega, rfl, by rw [hF0]; exact World.ownsRow_nil _ _ _ _, Below.refl _ _⟩
  case round =>
    obtain ⟨k, A, hk, HA, rfl, hown, hbel⟩ := hrel
    have hbs := hbel.size
    by_cases hlt : k < m
    · have hA : A < s.size := by rw [HA.out]; exact (hm k).1 hlt
      have hAk : k ≤ A := by rw [HA.out]; exact Nat.le_mul_of_pos_right k (by omega)
      obtain ⟨D, hD⟩ : ∃ D, D = min (A + n) s.size := ⟨_, rfl⟩
      have hmin : min ((A : Int) + (n : Int)) (s.size : Int) = (D : Int) := by omega
      have hD1 : A ≤ D := by omega
      have hD2 : D ≤ s.size := by omega
      have HF : Hid (F (k + 1) = F k ++ [(s.extract A D).data.toList]) := by show _ = _; rw [hD, HA.out]; exact hFs k
      have HA1 : Hid (A + n = (k + 1) * n) := by show _ = _; rw [Nat.succ_mul, ← HA.out]
      have hFk : (F k).length ≤ k := Nat.le_of_eq (hFl k)
      generalize F k = L at *
      clear hm hFs hFl hD
      generalize hpe : s.extract A D = piece at *
      have hcl := fun V => ck_clone_any piece V (by rw [← hpe, ByteArray.size_extract]; omega)
      go_wp2_with fail
      refine (hcl _).mono ?_
      rintro e w3 ⟨rfl, hb3⟩
      have hown3 := own_below hown hb3
      have hB3 := hbel.trans (hb3.mono hbel.size)
      have hs3 := hB3.size
      clear hb3 hown hbel hcl
      go_wp2_with (at_builtin; refine wpList_append_own _ rfl _ _ 62 rfl w.heap.size 9 i0 (.string ⟨#[]⟩) 1 16 Tryz.underlying62 hi hz0 hz1 hz2 rfl (by decide) _ _ _ rfl (hown3.alloc _) ⟨w3.heap.size, 0, none⟩ 1 1 [.string piece] rfl rfl ?c1 ?c2 ?c3 ?c4 ?c5 ?_)
      case c1 =>
        intro j u hj
        match j, hj with
        | 0, hj => simp at hj; subst hj; simp [Addr.add]
      case c2 => intro u hu; simp at hu; subst hu; rfl
      case c3 => unfold maxLen; omega
      case c4 => omega
      case c5 => simp; omega
      intro v' w1 hown1 hgrow _
      have R := own_str hown3 hown1 hgrow hB3 (Nat.le_refl _)
      have HR1 : Hid (w1.ownsRow w.heap.size 9 1 v' (F (k + 1)).length ((F (k + 1)).map Sv)) := by rw [HF.out]; exact R.1
      have HR2 : Hid (Below w.heap.size w w1) := R.2
      clear R hown1 hgrow hown3 hB3
      go_wp2_with fail
      go_roundw
      case rel => exact ⟨k + 1, A + n, by omega, HA1, by go_num, HR1.out, HR2.out⟩
      case measure => simp only [intOf]; omega
    · obtain rfl : k = m := by omega
      have hA : s.size ≤ A := by
        rw [HA.out]
        have := (hm k).2
        omega
      go_wp2_with fail
      go_ret2
      exact ⟨_, rfl, hown, hbel⟩

theorem fix_sum (n : Nat) (s : ByteArray) (h1 : 1 ≤ n) : (∀ k, k < Ck.many n s.size ↔ k * n < s.size) ∧ Ck.fx n s.data.toList 0 = [] ∧ (∀ k, (Ck.fx n s.data.toList k).length = k) ∧
    (∀ k, Ck.fx n s.data.toList (k + 1) = Ck.fx n s.data.toList k ++ [(s.extract (k * n) (min (k * n + n) s.size)).data.toList]) ∧ Ck.fx n s.data.toList (Ck.many n s.size) = Ck.fixed n s.data.toList :=
  ⟨fun k => Ck.many_lt (by omega), rfl, fun k => Ck.fx_length _ _ _, fun k => by rw [fix_at, Ck.fx_succ], by rw [Ck.fixed, ← Lib.size_eq]⟩
theorem fixN_one {n len : Int} (h : n < 1 ∨ 1024 < n) : fixN n len = 1 := if_pos h
theorem fixN_two {n len : Int} (h : ¬ (n < 1 ∨ 1024 < n)) (h2 : 4096 < len) : fixN n len = 2 := by rw [fixN, if_neg h, if_neg (by omega)]
theorem fixN_zero {n len : Int} (h : ¬ (n < 1 ∨ 1024 < n)) (h2 : len ≤ 4096) : fixN n len = 0 := by rw [fixN, if_neg h, if_pos h2]

set_option maxHeartbeats 1000000 in
theorem rfixed_one (n : Int) (s : ByteArray) (w : World) (h : n < 1 ∨ 1024 < n) :
    Calls Tryz.prog 70 #[.int .i64 n, .string s] w fun e w' => e = .returned (.tuple #[.slice none 0 0, .int .i64 1]) ∧ w' = w := by
  rcases h with h | h
  · go_enter Tryz.func70, Tryz.ntmps70
    go_wp2_with fail
    go_ret2
    exact ⟨rfl, rfl⟩
  · go_enter Tryz.func70, Tryz.ntmps70
    go_wp2_with fail
    go_ret2
    exact ⟨rfl, rfl⟩
set_option maxHeartbeats 1000000 in
theorem rfixed_two (n : Int) (s : ByteArray) (w : World) (h1 : 1 ≤ n) (h2 : n ≤ 1024) (h3 : 4096 < s.size) :
    Calls Tryz.prog 70 #[.int .i64 n, .string s] w fun e w' => e = .returned (.tuple #[.slice none 0 0, .int .i64 2]) ∧ w' = w := by
  go_enter Tryz.func70, Tryz.ntmps70
  go_wp2_with fail
  go_ret2
  exact ⟨rfl, rfl⟩
theorem rfixed_any (n : Int) (s : ByteArray) (w : World) :
    Calls Tryz.prog 70 #[.int .i64 n, .string s] w fun e w' => ∃ v, e = .returned (.tuple #[v, .int .i64 (fixN n s.size)]) ∧ w'.ownsRow w.heap.size 9 1 v (fixL n s).length ((fixL n s).map Sv) ∧ Below w.heap.size w w' := by
  by_cases h : n < 1 ∨ 1024 < n
  · refine (rfixed_one n s w h).mono ?_
    rintro e w' ⟨rfl, rfl⟩
    rw [fixL, fixN_one h, if_neg (by omega)]
    exact ⟨_, rfl, World.ownsRow_nil _ _ _ _, Below.refl _ _⟩
  · by_cases hs : s.size ≤ 4096
    · obtain ⟨m, rfl⟩ := Int.eq_ofNat_of_zero_le (show 0 ≤ n by omega)
      obtain ⟨a, b, c, d, e⟩ := fix_sum m s (by omega)
      have := rfixed_of m _ _ s w (by omega) (by omega) hs a b c d
      rw [e] at this
      rw [fixL, fixN_zero h (by omega), if_pos rfl]
      exact this
    · refine (rfixed_two n s w (by omega) (by omega) (by omega)).mono ?_
      rintro e w' ⟨rfl, rfl⟩
      rw [fixL, fixN_two h (by omega), if_neg (by omega)]
      exact ⟨_, rfl, World.ownsRow_nil _ _ _ _, Below.refl _ _⟩

set_option maxHeartbeats 1000000 in
theorem fixed_one (n : Int) (s : ByteArray) (w : World) (h : n < 1 ∨ 1024 < n) :
    Calls Tryz.prog 123 #[.int .i64 n, .string s] w fun e w' => e = .returned (.tuple #[.slice none 0 0, .int .i64 1]) ∧ w' = w := by
  rcases h with h | h
  · go_enter Tryz.func123, Tryz.ntmps123
    go_wp2_with fail
    go_ret2
    exact ⟨rfl, rfl⟩
  · go_enter Tryz.func123, Tryz.ntmps123
    go_wp2_with fail
    go_ret2
    exact ⟨rfl, rfl⟩
set_option maxHeartbeats 1000000 in
theorem fixed_two (n : Int) (s : ByteArray) (w : World) (h1 : 1 ≤ n) (h2 : n ≤ 1024) (h3 : 4096 < s.size) :
    Calls Tryz.prog 123 #[.int .i64 n, .string s] w fun e w' => e = .returned (.tuple #[.slice none 0 0, .int .i64 2]) ∧ w' = w := by
  go_enter Tryz.func123, Tryz.ntmps123
  go_wp2_with fail
  go_ret2
  exact ⟨rfl, rfl⟩
theorem fixed_any (n : Int) (s : ByteArray) (w : World) :
    Calls Tryz.prog 123 #[.int .i64 n, .string s] w fun e w' => ∃ v, e = .returned (.tuple #[v, .int .i64 (fixN n s.size)]) ∧ w'.ownsRow w.heap.size 9 1 v (fixL n s).length ((fixL n s).map Sv) ∧ Below w.heap.size w w' := by
  by_cases h : n < 1 ∨ 1024 < n
  · refine (fixed_one n s w h).mono ?_
    rintro e w' ⟨rfl, rfl⟩
    rw [fixL, fixN_one h, if_neg (by omega)]
    exact ⟨_, rfl, World.ownsRow_nil _ _ _ _, Below.refl _ _⟩
  · by_cases hs : s.size ≤ 4096
    · obtain ⟨m, rfl⟩ := Int.eq_ofNat_of_zero_le (show 0 ≤ n by omega)
      obtain ⟨a, b, c, d, e⟩ := fix_sum m s (by omega)
      have := fixed_of m _ _ s w (by omega) (by omega) hs a b c d
      rw [e] at this
      rw [fixL, fixN_zero h (by omega), if_pos rfl]
      exact this
    · refine (fixed_two n s w (by omega) (by omega) (by omega)).mono ?_
      rintro e w' ⟨rfl, rfl⟩
      rw [fixL, fixN_two h (by omega), if_neg (by omega)]
      exact ⟨_, rfl, World.ownsRow_nil _ _ _ _, Below.refl _ _⟩
end Go.Proofs.YtimdioacmojkeaaGreatDoor

namespace Go.Proofs.YtimdioacmojkeaaGreatDoor
namespace Wk
open Nn (Name)

theorem tails_snoc (l : List Name) (s : Name) : Nn.tails (l ++ [s]) = Nn.tails l ++ 47 :: s := by
  unfold Nn.tails
  rw [List.flatMap_append]
  simp

theorem bang (l : Bs) (j : Nat) (hj : j < l.length) : (⟨l.toArray⟩ : ByteArray).data[j]! = l[j] := by
  rw [getElem!_pos _ j (by simpa using hj)]
  simp

/-- the last slash of a text stands where what is behind it has none -/
theorem last_of (a b : Bs) (h : (47 : UInt8) ∉ b) : Lib.lastIndexByte ⟨(a ++ 47 :: b).toArray⟩ 47 = (a.length : Int) := by
  have hsz : (⟨(a ++ 47 :: b).toArray⟩ : ByteArray).size = a.length + 1 + b.length := by
    rw [Lib.size_eq]; simp; omega
  have hmid : ((⟨(a ++ 47 :: b).toArray⟩ : ByteArray).data[a.length]!).toNat = 47 := by
    rw [bang _ _ (by simp)]
    simp
  rcases Lib.lastIndexByte_spec ⟨(a ++ 47 :: b).toArray⟩ 47 with ⟨_, hn⟩ | ⟨i, hi, e, hc, hn⟩
  · exact absurd (by exact_mod_cast hmid) (hn a.length (by rw [hsz]; omega))
  · rw [e]
    rcases Nat.lt_trichotomy i a.length with q | q | q
    · exact absurd (by exact_mod_cast hmid) (hn a.length q (by rw [hsz]; omega))
    · rw [q]
    · exfalso
      rw [hsz] at hi
      have hl : i < (a ++ 47 :: b).length := by simp; omega
      rw [bang _ _ hl] at hc
      have hb : (a ++ 47 :: b)[i] = 47 := UInt8.toNat_inj.1 (by exact_mod_cast hc)
      obtain ⟨k, rfl⟩ : ∃ k, i = a.length + 1 + k := ⟨i - a.length - 1, by omega⟩
      have hb2 : (a ++ 47 :: b)[a.length + 1 + k]? = some 47 := by rw [List.getElem?_eq_getElem hl, hb]
      rw [List.getElem?_append_right (by omega), show a.length + 1 + k - a.length = k + 1 from by omega, List.getElem?_cons_succ] at hb2
      exact h (List.mem_of_getElem? hb2)

theorem count_tails : ∀ (l : List Name), (∀ s ∈ l, (47 : UInt8) ∉ s) → (Nn.tails l).count 47 = l.length
  | [], _ => rfl
  | s :: l, h => by
    have e : Nn.tails (s :: l) = 47 :: (s ++ Nn.tails l) := rfl
    rw [e, List.count_cons_self, List.count_append, List.count_eq_zero.2 (h s List.mem_cons_self), count_tails l fun t ht => h t (List.mem_cons_of_mem _ ht), List.length_cons]
    omega

theorem joinB_tails {l : List Name} (h : l ≠ []) : Nn.joinB l = Nn.tails l := by unfold Nn.joinB; rw [if_neg h]

theorem path_tails {x : It} (h : Ok1 x) : x.path = Nn.tails x.nms := by rw [path_eq h, joinB_tails h.ne]

/-- the path of its directory, none of the root -/
def par (x : It) : Bs := Nn.tails x.nms.dropLast

def nam (x : It) : Name := x.nms.getLastD []

theorem nms_snoc {x : It} (h : Ok1 x) : x.nms = x.nms.dropLast ++ [nam x] := by
  have := List.dropLast_concat_getLast h.ne
  unfold nam
  rw [List.getLastD_eq_getLast?, List.getLast?_eq_some_getLast h.ne, Option.getD_some, this]

theorem path_snoc {x : It} (h : Ok1 x) : x.path = par x ++ 47 :: nam x := by
  rw [path_tails h]
  conv => lhs; rw [nms_snoc h]
  exact tails_snoc _ _

theorem nam_slash {x : It} (h : Ok1 x) : (47 : UInt8) ∉ nam x := by
  refine Nn.noslash (errs_nms h) _ ?_
  rw [nms_snoc h]
  simp

theorem path_last {x : It} (h : Ok1 x) : Lib.lastIndexByte ⟨x.path.toArray⟩ 47 = ((par x).length : Int) := by
  rw [path_snoc h]
  exact last_of _ _ (nam_slash h)

theorem path_long {x : It} (h : Ok1 x) : x.path.length = (par x).length + 1 + (nam x).length := by
  rw [path_snoc h]; simp; omega

/-- the directories that came: their paths -/
def dirs (done : List It) : List Bs := [] :: (done.filter It.dir).map It.path

theorem dirs_snoc (done : List It) (x : It) : dirs (done ++ [x]) = if x.kind = 2 then dirs done ++ [x.path] else dirs done := by
  unfold dirs
  rw [List.filter_append, List.map_append]
  by_cases h : x.kind = 2
  · rw [if_pos h, List.filter_cons_of_pos (by unfold It.dir; simpa using h)]; rfl
  · rw [if_neg h, List.filter_cons_of_neg (by unfold It.dir; simpa using h)]; simp

theorem lies_dirs {done : List It} {x : It} (h : Ok1 x) : lies done x = decide (par x ∈ dirs done) := by
  by_cases h0 : x.nms.dropLast = []
  · have e1 : up x = [47] := by unfold up; rw [h0]; rfl
    have e2 : par x = [] := by unfold par; rw [h0]; rfl
    unfold lies dirs
    rw [e1, e2]
    simp
  · have e1 : up x = par x := joinB_tails h0
    have e2 : up x ≠ [47] := fun e => h0 (joinB_root (errs_up h) e)
    have e3 : par x ≠ [] := by
      unfold par
      cases q : x.nms.dropLast with
      | nil => exact absurd q h0
      | cons s l => exact fun e => by cases e
    unfold lies
    rw [decide_eq_false e2, Bool.false_or]
    rw [Bool.eq_iff_iff]
    simp only [List.any_eq_true, Bool.and_eq_true, decide_eq_true_eq]
    unfold dirs
    rw [e1, List.mem_cons, List.mem_map]
    constructor
    · rintro ⟨y, hy, e, hd⟩
      exact .inr ⟨y, List.mem_filter.2 ⟨hy, hd⟩, e⟩
    · rintro (e | ⟨y, hy, e⟩)
      · exact absurd e e3
      · obtain ⟨h1, h2⟩ := List.mem_filter.1 hy
        exact ⟨y, h1, e, h2⟩

theorem names_few {x : It} (h : Ok1 x) : x.nms.length ≤ 8 := by
  have := errsF_few _ 0 (errs_nms h) (by omega)
  omega

/-- needed IDs: of all nodes, in order, each once -/
def uniq (out : List Bs) (ids : List Bs) : List Bs := ids.foldl (fun o i => if i ∈ o then o else o ++ [i]) out

theorem uniq_nil (out : List Bs) : uniq out [] = out := rfl

theorem uniq_cons (out : List Bs) (i : Bs) (ids : List Bs) : uniq out (i :: ids) = uniq (if i ∈ out then out else out ++ [i]) ids := rfl

theorem uniq_app (out a b : List Bs) : uniq out (a ++ b) = uniq (uniq out a) b := by unfold uniq; rw [List.foldl_append]

theorem mem_uniq : ∀ (ids out : List Bs) (i : Bs), i ∈ uniq out ids ↔ i ∈ out ∨ i ∈ ids
  | [], out, i => by simp [uniq_nil]
  | j :: ids, out, i => by
    rw [uniq_cons, mem_uniq ids _ i]
    split
    · rename_i h
      constructor
      · rintro (q | q)
        · exact .inl q
        · exact .inr (List.mem_cons_of_mem _ q)
      · rintro (q | q)
        · exact .inl q
        · rcases List.mem_cons.1 q with e | q
          · rw [e]; exact .inl h
          · exact .inr q
    · rw [List.mem_append, List.mem_singleton, List.mem_cons, or_assoc]

def needs (b : Int × Bs) : List Bs × Int :=
  if Pk.bErr b ≠ 0 then ([], Pk.bErr b) else if b.1 ≠ 2 then ([], 0) else
  if (Td.read b.2).2 ≠ 0 then ([], (Td.read b.2).2) else (uniq [] ((Td.read b.2).1.flatMap fun n => n.parts), 0)

end Wk

end Go.Proofs.YtimdioacmojkeaaGreatDoor

namespace Go.Proofs.YtimdioacmojkeaaGreatDoor
open Go.RowKit

theorem own_kept {p : Nat → Prop} {base : Nat} {e : TypeId} {k : Nat} {v : Value} {n : Nat} {xs : List Value} {w w' : World} (h : w.ownsRow base e k v n xs) (hk : Kept p w w') (hp : ∀ g, v.ownBlock = some g → p g) : w'.ownsRow base e k v n xs := by
  obtain ⟨h1, h2⟩ := h
  refine ⟨h1, ?_⟩
  rcases h2 with h2 | ⟨g, cap, cur, hv, hg, hh, r⟩
  · exact .inl h2
  · refine .inr ⟨g, cap, cur, hv, hg, ?_, r⟩
    rw [hk.block g (Array.getElem?_eq_some_iff.1 hh).1 (hp g (by rw [hv]; rfl)), hh]
theorem own_block {base : Nat} {e : TypeId} {k : Nat} {v : Value} {n : Nat} {xs : List Value} {w : World} (h : w.ownsRow base e k v n xs) {g : Nat} (hg : v.ownBlock = some g) : ∃ cur, w.heap[g]? = some (.cells cur e (0, 0)) ∧ base ≤ g ∧ g < w.heap.size := by
  rcases h.2 with ⟨rfl, _⟩ | ⟨g', cap, cur, rfl, hb, hh, _⟩
  · simp [Value.ownBlock] at hg
  · simp [Value.ownBlock] at hg
    subst hg
    exact ⟨cur, hh, hb, (Array.getElem?_eq_some_iff.1 hh).1⟩
/-- rows of unlike cells are no one block -/
theorem own_unlike {b1 b2 : Nat} {e1 e2 : TypeId} {k1 k2 : Nat} {v1 v2 : Value} {n1 n2 : Nat} {x1 x2 : List Value} {w : World} (h1 : w.ownsRow b1 e1 k1 v1 n1 x1) (h2 : w.ownsRow b2 e2 k2 v2 n2 x2) (hne : e1 ≠ e2) : ∀ g, v1.ownBlock = some g → v2.ownBlock ≠ some g := by
  intro g hg hg2
  obtain ⟨c1, a1, _⟩ := own_block h1 hg
  obtain ⟨c2, a2, _⟩ := own_block h2 hg2
  rw [a1] at a2
  simp at a2
  exact hne a2.2
theorem own_len {base : Nat} {e : TypeId} {k : Nat} {v : Value} {n : Nat} {xs : List Value} {w : World} (h : w.ownsRow base e k v n xs) : ∃ a c, v = .slice a n c := by
  rcases h.2 with ⟨rfl, h0⟩ | ⟨g, cap, cur, rfl, _⟩
  · exact ⟨_, _, by rw [h0]⟩
  · exact ⟨_, _, rfl⟩
theorem own_some {base : Nat} {e : TypeId} {k : Nat} {v : Value} {n : Nat} {xs : List Value} {w : World} (h : w.ownsRow base e k v n xs) (hn : 0 < n) : ∃ g c, v = .slice (some ⟨g, 0, none⟩) n c ∧ base ≤ g ∧ g < w.heap.size := by
  rcases h.2 with ⟨rfl, h0⟩ | ⟨g, cap, cur, rfl, hb, hh, _⟩
  · omega
  · exact ⟨_, _, rfl, hb, (Array.getElem?_eq_some_iff.1 hh).1⟩

/-- texts that lie in memory -/
structure Tx (w : World) (v : Value) (l : List ByteArray) : Prop where
  at_ : ((∃ a c, v = .slice a 0 c) ∧ l = []) ∨ ∃ bk o cap, v = .slice (some ⟨bk, o, none⟩) l.length cap ∧ bk < w.heap.size ∧
    ∀ j, j < l.length → w.cell? ⟨bk, o + j, none⟩ = some (.string (l.getD j ByteArray.empty))
theorem Tx.slice {w : World} {v : Value} {l : List ByteArray} (h : Tx w v l) : ∃ a c, v = .slice a l.length c := by
  rcases h.at_ with ⟨⟨a, c, rfl⟩, rfl⟩ | ⟨bk, o, cap, rfl, _⟩
  · exact ⟨_, _, rfl⟩
  · exact ⟨_, _, rfl⟩
theorem Tx.kept {p : Nat → Prop} {w w' : World} {v : Value} {l : List ByteArray} (h : Tx w v l) (hk : Kept p w w') (hp : ∀ a n c, v = .slice (some a) n c → p a.block) : Tx w' v l := by
  rcases h.at_ with h | ⟨bk, o, cap, h1, h3, h4⟩
  · exact ⟨.inl h⟩
  · refine ⟨.inr ⟨bk, o, cap, h1, Nat.lt_of_lt_of_le h3 hk.size, fun j hj => ?_⟩⟩
    have e := hk.block bk h3 (hp _ _ _ h1)
    rw [show w'.cell? ⟨bk, o + j, none⟩ = w.cell? ⟨bk, o + j, none⟩ from by simp only [World.cell?, e]]
    exact h4 j hj
theorem Tx.below {w w' : World} {v : Value} {l : List ByteArray} (h : Tx w v l) (hb : Below w.heap.size w w') : Tx w' v l := h.kept (Kept.of_below (p := fun _ => True) hb) fun _ _ _ _ => trivial
/-- what is below a block stays -/
theorem Tx.under {B : Nat} {w w' : World} {v : Value} {l : List ByteArray} (h : Tx w v l) (hB : w.heap.size ≤ B) (hb : Below B w w') : Tx w' v l := h.below (hb.mono hB)
theorem Tx.get {w : World} {a : Option Addr} {n c : Nat} {l : List ByteArray} (h : Tx w (.slice a n c) l) (j : Nat) (hj : j < l.length) : ∃ bk o, a = some ⟨bk, o, none⟩ ∧ bk < w.heap.size ∧
    w.cell? ⟨bk, o + j, none⟩ = some (.string (l.getD j ByteArray.empty)) := by
  rcases h.at_ with ⟨_, rfl⟩ | ⟨bk, o, cap, h1, h3, h4⟩
  · simp at hj
  · simp at h1
    obtain ⟨rfl, rfl, rfl⟩ := h1
    exact ⟨bk, o, rfl, h3, h4 j hj⟩
def Tv (s : ByteArray) : Value := .string s
theorem Tx.of_own {base : Nat} {w : World} {v : Value} {l : List ByteArray} (h : w.ownsRow base 9 1 v l.length (l.map Tv)) : Tx w v l := by
  rcases h.2 with ⟨rfl, h0⟩ | ⟨g, cap, cur, rfl, hg, hh, _⟩
  · exact ⟨.inl ⟨⟨_, _, rfl⟩, List.length_eq_zero_iff.1 h0⟩⟩
  · refine ⟨.inr ⟨g, 0, cap, rfl, (Array.getElem?_eq_some_iff.1 hh).1, fun j hj => ?_⟩⟩
    rw [Nat.zero_add, h.cellAt j (by omega), List.getElem?_map, List.getD_eq_getElem?_getD, List.getElem?_eq_getElem hj]
    rfl
/-- one's own texts: another block than that of bytes -/
theorem Tx.zero {w : World} {a : Option Addr} {n c : Nat} {l : List ByteArray} (h : Tx w (.slice a n c) l) (hl : 0 < l.length) : ∃ bk o, a = some ⟨bk, o, none⟩ ∧ bk < w.heap.size ∧
    w.cell? ⟨bk, o, none⟩ = some (.string (l.getD 0 ByteArray.empty)) := by
  obtain ⟨bk, o, h1, h2, h3⟩ := h.get 0 hl
  exact ⟨bk, o, h1, h2, h3⟩

theorem text_ne {s t : ByteArray} (h : ¬ s = t) : (s.toList == t.toList) = false := by
  rw [beq_eq_false_iff_ne]
  intro h'
  rw [Lib.toList_data, Lib.toList_data] at h'
  exact h (ByteArray.ext (Array.toList_inj.1 h'))
theorem tv_one (l : List ByteArray) : ∀ u ∈ l.map Tv, u.oneCell' = true := by
  intro u hu
  obtain ⟨x, _, rfl⟩ := List.mem_map.1 hu
  rfl
theorem add_at (g o j : Nat) : (⟨g, o, none⟩ : Addr).add j = ⟨g, o + j, none⟩ := by unfold Addr.add; split <;> simp_all
theorem Tx.src {w : World} {a : Option Addr} {n c : Nat} {l : List ByteArray} (h : Tx w (.slice a n c) l) : (a = none → l.length = 0) ∧ ∀ ad, a = some ad → ∀ j u, (l.map Tv)[j]? = some u → w.cell? (ad.add j) = some u := by
  rcases h.at_ with ⟨_, rfl⟩ | ⟨bk, o, cap, h1, h3, h4⟩
  · exact ⟨fun _ => rfl, fun ad _ j u hj => by simp at hj⟩
  · simp at h1
    obtain ⟨rfl, rfl, rfl⟩ := h1
    refine ⟨fun e => by simp at e, fun ad e j u hj => ?_⟩
    obtain rfl := Option.some.inj e
    have hjl : j < l.length := by
      have := (List.getElem?_eq_some_iff.1 hj).1
      simpa using this
    rw [add_at, h4 j hjl, ← hj, List.getElem?_map, List.getD_eq_getElem?_getD, List.getElem?_eq_getElem hjl]
    rfl

def txTo (f : Nat → ByteArray) (p k : Nat) : List ByteArray := (List.range p).map fun j => if j < k then f j else ByteArray.empty
theorem txTo_length (f : Nat → ByteArray) (p k : Nat) : (txTo f p k).length = p := by simp [txTo]
theorem txTo_set (f : Nat → ByteArray) (p k : Nat) : txTo f p (k + 1) = (txTo f p k).set k (f k) := by
  refine List.ext_getElem (by simp [txTo]) fun i h1 h2 => ?_
  simp only [txTo, List.getElem_map, List.getElem_range, List.getElem_set]
  by_cases e : k = i
  · subst e; rw [if_pos (by omega), if_pos rfl]
  · rw [if_neg e]
    by_cases h : i < k
    · rw [if_pos h, if_pos (by omega)]
    · rw [if_neg h, if_neg (by omega)]
theorem txTo_all (f : Nat → ByteArray) (p : Nat) : txTo f p p = (List.range p).map f :=
  List.map_congr_left fun i hi => by rw [if_pos (List.mem_range.1 hi)]
theorem txTo_zero (f : Nat → ByteArray) (p : Nat) : txTo f p 0 = List.replicate p ByteArray.empty := by
  refine List.ext_getElem (by simp [txTo]) fun i h1 h2 => ?_
  simp [txTo]
theorem made_tx {base g n : Nat} {w : World} (h : w.ownsRow base 9 1 (.slice (some ⟨g, 0, none⟩) n n) n (madeCells (Value.string ⟨#[]⟩).cells (n * 1)).toList) :
    w.ownsRow base 9 1 (.slice (some ⟨g, 0, none⟩) n n) n ((List.replicate n ByteArray.empty).map Tv) := by
  have e : (madeCells (Value.string ⟨#[]⟩).cells (n * 1)).toList = (List.replicate n ByteArray.empty).map Tv := by
    rw [Nat.mul_one]
    refine List.ext_getElem (by simp [size_madeCells]) fun i h1 h2 => ?_
    simp [madeCells, Value.cells, Tv, Nat.mod_one]
    rfl
  rw [← e]
  exact h
/-- a text stored in a row of one's own -/
theorem tx_store {base g n cap : Nat} {w : World} {l : List ByteArray} (h : w.ownsRow base 9 1 (.slice (some ⟨g, 0, none⟩) n cap) n (l.map Tv)) (k : Nat) (x : ByteArray) :
    (w.setCell ⟨g, k, none⟩ (.string x)).ownsRow base 9 1 (.slice (some ⟨g, 0, none⟩) n cap) n ((l.set k x).map Tv) := by
  have := (h.stored k (.string x)).1
  rw [List.map_set]
  exact this
theorem tx_cell {base g n cap : Nat} {w : World} {l : List ByteArray} (h : w.ownsRow base 9 1 (.slice (some ⟨g, 0, none⟩) n cap) n (l.map Tv)) (k : Nat) (hk : k < n) :
    ∃ x, w.cell? ⟨g, k, none⟩ = some (.string x) := by
  have hn : l.length = n := by have := h.1; simpa using this
  rw [h.cellAt k (by omega), List.getElem?_map, List.getElem?_eq_getElem (by omega)]
  exact ⟨_, rfl⟩
end Go.Proofs.YtimdioacmojkeaaGreatDoor

namespace Go.Proofs.YtimdioacmojkeaaGreatDoor
open Go.RowKit
set_option maxRecDepth 4000

/-- a way, as it is handed in -/
abbrev wayV (fx mn mx bt : Int) : Value := .agg #[.int .i64 fx, .int .i64 mn, .int .i64 mx, .int .i64 bt]

/-- WayOK -/
def wayN (fx mn mx bt : Int) : Int := if fx = 0 then okN mn mx bt else if fx < 16 ∨ 1024 < fx then 1 else 0

/-- the pieces of a text -/
def cutW (fx mn mx bt : Int) (s : ByteArray) : List Ck.Bs := if fx = 0 then cutL mn mx bt s else fixL fx s

def cutF (fx mn mx bt : Int) (s : List UInt8) : List (List UInt8) := cutW fx mn mx bt ⟨s.toArray⟩

theorem cutF_of (fx mn mx bt : Int) (s : ByteArray) : cutF fx mn mx bt s.data.toList = cutW fx mn mx bt s := rfl

theorem okN_ok {mn mx bt : Int} (h : okN mn mx bt = 0) : OkCut mn mx bt := by
  unfold okN at h
  by_cases q : OkCut mn mx bt
  · exact q
  · rw [if_neg q] at h; cases h

theorem cutW_fixed {fx mn mx bt : Int} (h0 : fx ≠ 0) (h : wayN fx mn mx bt = 0) (s : ByteArray) (hs : s.size ≤ 4096) : 16 ≤ fx ∧ fx ≤ 1024 ∧ cutW fx mn mx bt s = Ck.fixed fx.toNat s.data.toList := by
  unfold wayN at h
  rw [if_neg h0] at h
  split at h
  · cases h
  rename_i q
  refine ⟨by omega, by omega, ?_⟩
  unfold cutW fixL
  rw [if_neg h0, if_pos]
  unfold fixN
  rw [if_neg (by omega), if_pos (by omega)]

theorem cutW_cut {fx mn mx bt : Int} (h0 : fx = 0) (h : wayN fx mn mx bt = 0) (s : ByteArray) (hs : s.size ≤ 4096) : OkCut mn mx bt ∧ cutW fx mn mx bt s = Ck.cut (Ck.ends mn.toNat mx.toNat bt.toNat Rl.ofL) s.data.toList := by
  unfold wayN at h
  rw [if_pos h0] at h
  have hO := okN_ok h
  refine ⟨hO, ?_⟩
  unfold cutW cutL
  rw [if_pos h0, if_pos (sizeN_zero.2 ⟨hO, by omega⟩)]

theorem cutF_join {fx mn mx bt : Int} (h : wayN fx mn mx bt = 0) (s : List UInt8) (hs : s.length ≤ 4096) : (cutF fx mn mx bt s).flatten = s := by
  unfold cutF
  by_cases h0 : fx = 0
  · rw [(cutW_cut h0 h ⟨s.toArray⟩ (by rw [Lib.size_eq]; simpa using hs)).2]
    exact Ck.cut_join _
  · obtain ⟨h1, _, e⟩ := cutW_fixed h0 h ⟨s.toArray⟩ (by rw [Lib.size_eq]; simpa using hs)
    rw [e]
    exact Ck.fixed_join (by omega) _

theorem flat_many (m : Nat) : ∀ (l : List (List UInt8)), (∀ (j : Nat) (hj : j < l.length), j + 1 < l.length → m ≤ (l[j]).length) → (l.length - 1) * m ≤ l.flatten.length
  | [], _ => by simp
  | [a], _ => by simp
  | a :: b :: l, h => by
    have h0 := h 0 (by simp) (by simp)
    have ih := flat_many m (b :: l) fun j hj hj2 => h (j + 1) (by simpa using hj) (by simpa using hj2)
    rw [List.flatten_cons, List.length_append]
    have e : (a :: b :: l).length - 1 = ((b :: l).length - 1) + 1 := by simp
    rw [e, Nat.add_mul, Nat.one_mul]
    have h0 : m ≤ a.length := h0
    omega

theorem cutF_few {fx mn mx bt : Int} (h : wayN fx mn mx bt = 0) (s : List UInt8) (hs : s.length ≤ 4096) : (cutF fx mn mx bt s).length ≤ s.length / 16 + 1 := by
  have hj := cutF_join h s hs
  have hm : ((cutF fx mn mx bt s).length - 1) * 16 ≤ (cutF fx mn mx bt s).flatten.length := by
    refine flat_many 16 _ fun j hj1 hj2 => ?_
    by_cases h0 : fx = 0
    · obtain ⟨hO, e⟩ := cutW_cut h0 h ⟨s.toArray⟩ (by rw [Lib.size_eq]; simpa using hs)
      have e : cutF fx mn mx bt s = _ := e
      obtain ⟨o1, o2, o3, _⟩ := hO
      have hl1 : j < (Ck.cut (Ck.ends mn.toNat mx.toNat bt.toNat Rl.ofL) s).length := by rw [e] at hj1; exact hj1
      have := Ck.cut_size (mn := mn.toNat) (mx := mx.toNat) (bits := bt.toNat) (sum := Rl.ofL) (by omega) (by omega) s hl1
      have hg : (cutF fx mn mx bt s)[j] = (Ck.cut (Ck.ends mn.toNat mx.toNat bt.toNat Rl.ofL) s)[j] := by congr 1
      rw [hg]
      have hl2 : j + 1 < (Ck.cut (Ck.ends mn.toNat mx.toNat bt.toNat Rl.ofL) s).length := by rw [e] at hj2; exact hj2
      have := this.2.2 hl2
      omega
    · obtain ⟨h1, h2, e⟩ := cutW_fixed h0 h ⟨s.toArray⟩ (by rw [Lib.size_eq]; simpa using hs)
      have e : cutF fx mn mx bt s = _ := e
      have hl1 : j < (Ck.fixed fx.toNat s).length := by rw [e] at hj1; exact hj1
      have hl2 : j + 1 < (Ck.fixed fx.toNat s).length := by rw [e] at hj2; exact hj2
      have := (Ck.fixed_size (n := fx.toNat) (s := s) (by omega) hl1).2.2 hl2
      have hg : (cutF fx mn mx bt s)[j] = (Ck.fixed fx.toNat s)[j] := by congr 1
      rw [hg]
      omega
  rw [hj] at hm
  omega

set_option maxHeartbeats 1000000 in
theorem wayok_any (fx mn mx bt : Int) (w : World) :
    Calls Tryz.prog 11 #[wayV fx mn mx bt] w fun e w' => e = .returned (.int .i64 (wayN fx mn mx bt)) ∧ Below w.heap.size w w' := by
  have hc := fun W => ok_any mn mx bt W
  unfold cutV at hc
  unfold wayN
  by_cases h0 : fx = 0
  · subst h0
    rw [if_pos rfl]
    generalize okN mn mx bt = K at *
    go_enter Tryz.func11, Tryz.ntmps11
    go_wp2_with fail
    refine (hc _).mono ?_
    rintro e w1 ⟨rfl, b1⟩
    have HB : Hid (Below w.heap.size w w1) := below_past b1
    clear b1 hc
    go_wp2_with fail
    go_ret
    exact ⟨rfl, HB.out⟩
  · rw [if_neg h0]
    have e0 : (fx == 0) = false := beq_eq_false_iff_ne.2 h0
    clear hc h0
    have HB : Hid (∀ o, Below w.heap.size w (w.alloc o)) := fun o => (Below.refl _ w).alloc (Nat.le_refl _) o
    by_cases h1 : fx < 16
    · rw [if_pos (.inl h1)]
      go_enter Tryz.func11, Tryz.ntmps11
      go_wp2_with fail
      go_ret
      exact ⟨rfl, HB.out _⟩
    by_cases h2 : 1024 < fx
    · rw [if_pos (.inr h2)]
      go_enter Tryz.func11, Tryz.ntmps11
      go_wp2_with fail
      go_ret
      exact ⟨rfl, HB.out _⟩
    rw [if_neg (by omega)]
    go_enter Tryz.func11, Tryz.ntmps11
    go_wp2_with fail
    go_ret
    exact ⟨rfl, HB.out _⟩

set_option maxHeartbeats 1000000 in
/-- cut: the pieces, in memory that was not there -/
theorem wcut_any (fx mn mx bt : Int) (s : ByteArray) (w : World) :
    Calls Tryz.prog 89 #[wayV fx mn mx bt, .string s] w fun e w' => ∃ v, e = .returned v ∧ w'.ownsRow (w.heap.size + 1) 9 1 v (cutW fx mn mx bt s).length ((cutW fx mn mx bt s).map Sv) ∧ Below w.heap.size w w' := by
  obtain ⟨W1, hW1⟩ : ∃ W1, W1 = w.alloc (.cells #[.int .i64 fx, .int .i64 mn, .int .i64 mx, .int .i64 bt] 25) := ⟨_, rfl⟩
  have HB1 : Hid (Below w.heap.size w W1) := by rw [hW1]; exact (Below.refl _ w).alloc (Nat.le_refl _) _
  have HS1 : Hid (W1.heap.size = w.heap.size + 1) := by show _ = _; rw [hW1]; simp
  have c0 : W1.cell? ⟨w.heap.size, 0, none⟩ = some (.int .i64 fx) := by rw [hW1]; simp
  have c1 : W1.cell? ⟨w.heap.size, 1, none⟩ = some (.int .i64 mn) := by rw [hW1]; simp
  have c2 : W1.cell? ⟨w.heap.size, 2, none⟩ = some (.int .i64 mx) := by rw [hW1]; simp
  have c3 : W1.cell? ⟨w.heap.size, 3, none⟩ = some (.int .i64 bt) := by rw [hW1]; simp
  unfold cutW
  by_cases h0 : fx = 0
  · have hc := ck_cut_any mn mx bt s W1
    rw [HS1.out] at hc
    unfold cutV at hc
    rw [if_pos h0]
    have e0 : (fx == 0) = true := by rw [beq_iff_eq]; exact h0
    clear h0
    generalize sizeN mn mx bt s.size = K at *
    generalize cutL mn mx bt s = L at *
    go_enter Tryz.func89, Tryz.ntmps89
    go_wp2_with fail
    rw [← hW1]
    clear hW1
    go_wp2_with fail
    refine hc.mono ?_
    rintro e w2 ⟨v, rfl, h2, b2⟩
    have HO : Hid (w2.ownsRow (w.heap.size + 1) 9 1 v L.length (L.map Sv)) := h2
    have HB2 : Hid (Below w.heap.size w w2) := HB1.out.trans (b2.mono (by omega))
    obtain ⟨a, c, rfl⟩ := own_form h2
    generalize hN : L.length = n at *
    clear h2 b2 hc c0 c1 c2 c3
    go_wp2_with fail
    go_ret
    subst hN
    exact ⟨_, rfl, HO.out, HB2.out⟩
  · have hc := fixed_any fx s W1
    rw [HS1.out] at hc
    rw [if_neg h0]
    have e0 : (fx == 0) = false := beq_eq_false_iff_ne.2 h0
    clear h0
    generalize fixN fx s.size = K at *
    generalize fixL fx s = L at *
    go_enter Tryz.func89, Tryz.ntmps89
    go_wp2_with fail
    rw [← hW1]
    clear hW1
    go_wp2_with fail
    refine hc.mono ?_
    rintro e w2 ⟨v, rfl, h2, b2⟩
    have HO : Hid (w2.ownsRow (w.heap.size + 1) 9 1 v L.length (L.map Sv)) := h2
    have HB2 : Hid (Below w.heap.size w w2) := HB1.out.trans (b2.mono (by omega))
    obtain ⟨a, c, rfl⟩ := own_form h2
    generalize hN : L.length = n at *
    clear h2 b2 hc c0 c1 c2 c3
    go_wp2_with fail
    go_ret
    subst hN
    exact ⟨_, rfl, HO.out, HB2.out⟩

end Go.Proofs.YtimdioacmojkeaaGreatDoor

namespace Go.Proofs.YtimdioacmojkeaaGreatDoor
open Go.RowKit
set_option maxRecDepth 4000

set_option maxHeartbeats 1000000 in
/-- PiecesOf: the pieces, in memory that was not there -/
theorem rpc_any (fx mn mx bt : Int) (s : ByteArray) (w : World) :
    Calls Tryz.prog 46 #[wayV fx mn mx bt, .string s] w fun e w' => ∃ v, e = .returned v ∧ w'.ownsRow (w.heap.size + 1) 9 1 v (cutW fx mn mx bt s).length ((cutW fx mn mx bt s).map Sv) ∧ Below w.heap.size w w' := by
  obtain ⟨W1, hW1⟩ : ∃ W1, W1 = w.alloc (.cells #[.int .i64 fx, .int .i64 mn, .int .i64 mx, .int .i64 bt] 25) := ⟨_, rfl⟩
  have HB1 : Hid (Below w.heap.size w W1) := by rw [hW1]; exact (Below.refl _ w).alloc (Nat.le_refl _) _
  have HS1 : Hid (W1.heap.size = w.heap.size + 1) := by show _ = _; rw [hW1]; simp
  have c0 : W1.cell? ⟨w.heap.size, 0, none⟩ = some (.int .i64 fx) := by rw [hW1]; simp
  have c1 : W1.cell? ⟨w.heap.size, 1, none⟩ = some (.int .i64 mn) := by rw [hW1]; simp
  have c2 : W1.cell? ⟨w.heap.size, 2, none⟩ = some (.int .i64 mx) := by rw [hW1]; simp
  have c3 : W1.cell? ⟨w.heap.size, 3, none⟩ = some (.int .i64 bt) := by rw [hW1]; simp
  unfold cutW
  by_cases h0 : fx = 0
  · have hc := ck_rcut_any mn mx bt s W1
    rw [HS1.out] at hc
    unfold cutV at hc
    rw [if_pos h0]
    have e0 : (fx == 0) = true := by rw [beq_iff_eq]; exact h0
    clear h0
    generalize sizeN mn mx bt s.size = K at *
    generalize cutL mn mx bt s = L at *
    go_enter Tryz.func46, Tryz.ntmps46
    go_wp2_with fail
    rw [← hW1]
    clear hW1
    go_wp2_with fail
    refine hc.mono ?_
    rintro e w2 ⟨v, rfl, h2, b2⟩
    have HO : Hid (w2.ownsRow (w.heap.size + 1) 9 1 v L.length (L.map Sv)) := h2
    have HB2 : Hid (Below w.heap.size w w2) := HB1.out.trans (b2.mono (by omega))
    obtain ⟨a, c, rfl⟩ := own_form h2
    generalize hN : L.length = n at *
    clear h2 b2 hc c0 c1 c2 c3
    go_wp2_with fail
    go_ret
    subst hN
    exact ⟨_, rfl, HO.out, HB2.out⟩
  · have hc := rfixed_any fx s W1
    rw [HS1.out] at hc
    rw [if_neg h0]
    have e0 : (fx == 0) = false := beq_eq_false_iff_ne.2 h0
    clear h0
    generalize fixN fx s.size = K at *
    generalize fixL fx s = L at *
    go_enter Tryz.func46, Tryz.ntmps46
    go_wp2_with fail
    rw [← hW1]
    clear hW1
    go_wp2_with fail
    refine hc.mono ?_
    rintro e w2 ⟨v, rfl, h2, b2⟩
    have HO : Hid (w2.ownsRow (w.heap.size + 1) 9 1 v L.length (L.map Sv)) := h2
    have HB2 : Hid (Below w.heap.size w w2) := HB1.out.trans (b2.mono (by omega))
    obtain ⟨a, c, rfl⟩ := own_form h2
    generalize hN : L.length = n at *
    clear h2 b2 hc c0 c1 c2 c3
    go_wp2_with fail
    go_ret
    subst hN
    exact ⟨_, rfl, HO.out, HB2.out⟩

end Go.Proofs.YtimdioacmojkeaaGreatDoor

namespace Go.Proofs.YtimdioacmojkeaaGreatDoor
open Go.RowKit

/-- things of k cells each, one behind another -/
structure Rx {α : Type} (k : Nat) (C : α → List Value) (w : World) (v : Value) (l : List α) : Prop where
  at_ : ((∃ a c, v = .slice a 0 c) ∧ l = []) ∨ ∃ bk o cap, v = .slice (some ⟨bk, o, none⟩) l.length cap ∧ bk < w.heap.size ∧
    ∀ j t, l[j]? = some t → ∀ r u, (C t)[r]? = some u → w.cell? ⟨bk, o + j * k + r, none⟩ = some u
  room : ∃ a n c, v = .slice a n c ∧ n ≤ c ∧ c ≤ 9223372036854775807
section
variable {α : Type} {k : Nat} {C : α → List Value}
theorem Rx.slice {w : World} {v : Value} {l : List α} (h : Rx k C w v l) : ∃ a c, v = .slice a l.length c ∧ l.length ≤ c ∧ c ≤ 9223372036854775807 := by
  obtain ⟨a', n', c', e, h1, h2⟩ := h.room
  rcases h.at_ with ⟨⟨a, c, rfl⟩, rfl⟩ | ⟨bk, o, cap, rfl, _⟩
  · rw [Value.slice.injEq] at e
    obtain ⟨rfl, rfl, rfl⟩ := e
    exact ⟨_, _, rfl, h1, h2⟩
  · rw [Value.slice.injEq] at e
    obtain ⟨rfl, rfl, rfl⟩ := e
    exact ⟨_, _, rfl, h1, h2⟩
theorem Rx.kept {p : Nat → Prop} {w w' : World} {v : Value} {l : List α} (h : Rx k C w v l) (hk : Kept p w w') (hp : ∀ a n c, v = .slice (some a) n c → p a.block) : Rx k C w' v l := by
  rcases h.at_ with h' | ⟨bk, o, cap, h1, h3, h4⟩
  · exact ⟨.inl h', h.room⟩
  · refine ⟨.inr ⟨bk, o, cap, h1, Nat.lt_of_lt_of_le h3 hk.size, fun j t hj r u hu => ?_⟩, h.room⟩
    have e := hk.block bk h3 (hp _ _ _ h1)
    have e2 : ∀ q, w'.cell? ⟨bk, q, none⟩ = w.cell? ⟨bk, q, none⟩ := fun q => by simp only [World.cell?, e]
    rw [e2]
    exact h4 j t hj r u hu
theorem Rx.below {w w' : World} {v : Value} {l : List α} (h : Rx k C w v l) (hb : Below w.heap.size w w') : Rx k C w' v l := h.kept (Kept.of_below (p := fun _ => True) hb) fun _ _ _ _ => trivial
theorem Rx.get {w : World} {a : Option Addr} {n c : Nat} {l : List α} (h : Rx k C w (.slice a n c) l) (j : Nat) (t : α) (hj : l[j]? = some t) : ∃ bk o, a = some ⟨bk, o, none⟩ ∧ bk < w.heap.size ∧
    ∀ r u, (C t)[r]? = some u → w.cell? ⟨bk, o + j * k + r, none⟩ = some u := by
  rcases h.at_ with ⟨_, rfl⟩ | ⟨bk, o, cap, h1, h3, h4⟩
  · simp at hj
  · rw [Value.slice.injEq] at h1
    obtain ⟨rfl, rfl, rfl⟩ := h1
    exact ⟨bk, o, rfl, h3, h4 j t hj⟩
/-- the cells of all -/
def rowR (C : α → List Value) (l : List α) : List Value := l.flatMap C
theorem rowR_length (hC : ∀ t, (C t).length = k) (l : List α) : (rowR C l).length = l.length * k := by
  induction l with
  | nil => simp [rowR]
  | cons t l ih => show (C t ++ rowR C l).length = _; rw [List.length_append, ih, List.length_cons, hC, Nat.add_mul, Nat.one_mul, Nat.add_comm]
theorem rowR_more (l : List α) (t : α) : rowR C (l ++ [t]) = rowR C l ++ C t := by simp [rowR]
theorem rowR_get (hC : ∀ t, (C t).length = k) (l : List α) (i r : Nat) (t : α) (hi : l[i]? = some t) (hr : r < k) : (rowR C l)[i * k + r]? = (C t)[r]? := by
  induction l generalizing i with
  | nil => simp at hi
  | cons q l ih =>
    show (C q ++ rowR C l)[i * k + r]? = _
    cases i with
    | zero =>
      obtain rfl : q = t := by simpa using hi
      rw [Nat.zero_mul, Nat.zero_add, List.getElem?_append_left (by rw [hC]; exact hr)]
    | succ i =>
      rw [List.getElem?_append_right (by rw [hC, Nat.add_mul, Nat.one_mul]; omega), hC, show (i + 1) * k + r - k = i * k + r from by rw [Nat.add_mul, Nat.one_mul]; omega, ih i (by simpa using hi)]
theorem rowR_one (hC : ∀ t, ∀ u ∈ C t, u.oneCell' = true) (l : List α) : ∀ u ∈ rowR C l, u.oneCell' = true := by
  intro u hu
  obtain ⟨t, _, ht⟩ := List.mem_flatMap.1 hu
  exact hC t u ht
theorem Rx.of_own {base : Nat} {T : TypeId} {w : World} {v : Value} {l : List α} (hC : ∀ t, (C t).length = k) (h : w.ownsRow base T k v l.length (rowR C l)) : Rx k C w v l := by
  rcases h.2 with ⟨rfl, h0⟩ | ⟨g, cap, cur, rfl, hg, hh, h1, h2, _⟩
  · exact ⟨.inl ⟨⟨_, _, rfl⟩, List.length_eq_zero_iff.1 h0⟩, _, _, _, rfl, Nat.le_refl _, by omega⟩
  · refine ⟨.inr ⟨g, 0, cap, rfl, (Array.getElem?_eq_some_iff.1 hh).1, fun j t hj r u hu => ?_⟩, _, _, _, rfl, h1, by unfold maxLen at h2; omega⟩
    have hr : r < k := by
      have := (List.getElem?_eq_some_iff.1 hu).1
      rwa [hC] at this
    have := World.ownsRow.cells h (g := g) rfl (j * k + r) u (by rw [rowR_get hC l j r t hj hr]; exact hu)
    rw [show (0 : Nat) + j * k + r = j * k + r from by omega]
    rwa [show ((⟨g, 0, none⟩ : Addr).add (j * k + r)) = ⟨g, j * k + r, none⟩ from by unfold Addr.add; split <;> simp_all] at this
/-- one more behind an owned row -/
theorem own_one_more {base : Nat} {T : TypeId} {w1 : World} {v1 : Value} {l : List α} {t : α} (h : w1.ownsRow base T k v1 (l.length + 1) (rowR C l ++ C t)) : w1.ownsRow base T k v1 (l ++ [t]).length (rowR C (l ++ [t])) := by
  rw [rowR_more, List.length_append, List.length_singleton]
  exact h
end

def idV (x : List UInt8) : Value := .agg (x.map B).toArray
def idC (x : List UInt8) : List Value := x.map B
end Go.Proofs.YtimdioacmojkeaaGreatDoor

namespace Go.Proofs.YtimdioacmojkeaaGreatDoor
namespace Pk

theorem two_back (n : Nat) (h : n < 65536) : (UInt8.ofNat (n % 256)).toNat + 256 * (UInt8.ofNat (n / 256)).toNat = n := by
  rw [UInt8.toNat_ofNat', UInt8.toNat_ofNat']
  omega
theorem two_length (n : Nat) : (two n).length = 2 := rfl
theorem rowB_length (b : Bl) (p : Bs) : (rowB b p).length ≤ 18 := by
  have h1 := bid_length b
  have h2 := Nm.put_length p.length
  rw [rowB, List.length_cons, List.length_append]
  omega
theorem rowsB_length : ∀ (l : List Bl) (ps : List Bs), (rowsB l ps).length ≤ 18 * l.length
  | [], _ => by simp [rowsB]
  | _ :: _, [] => by simp [rowsB]
  | b :: l, p :: ps => by
    have h1 := rowB_length b p
    have h2 := rowsB_length l ps
    rw [rowsB, List.length_append, List.length_cons]
    omega
theorem listB_length (l : List Bl) (ps : List Bs) (h : l.length ≤ 40) : (listB l ps).length ≤ 729 := by
  have h1 := rowsB_length l ps
  have h2 := Nm.put_length l.length
  rw [listB, List.length_append]
  omega
theorem packB_length (l : List Bl) (ps : List Bs) : (packB l ps).length = ps.flatten.length + (listB l ps).length + 10 := by
  rw [packB, List.length_append, dg_length, allB, List.length_append, List.length_append, two_length]
  omega
theorem flatten_le : ∀ (ps : List Bs), (∀ p ∈ ps, p.length ≤ 4097) → ps.flatten.length ≤ 4097 * ps.length
  | [], _ => by simp
  | p :: ps, h => by
    have h1 := h p (List.mem_cons_self ..)
    have h2 := flatten_le ps fun q hq => h q (List.mem_cons_of_mem _ hq)
    rw [List.flatten_cons, List.length_append, List.length_cons]
    omega

/-- what is packed is listed -/
theorem ls_pack (l : List Bl) (ps : List Bs) (hl : l.length = ps.length) (he : makeErr l = 0) (hp : ∀ p ∈ ps, p.length ≤ 4097) : ls (packB l ps) = (entsOf l ps 0, 0) := by
  unfold makeErr at he
  by_cases h40 : 40 < l.length
  · rw [if_pos h40] at he; omega
  rw [if_neg h40] at he
  have hL := listB_length l ps (by omega)
  have hN := packB_length l ps
  have hA : (allB l ps).length = ps.flatten.length + (listB l ps).length + 2 := by
    rw [allB, List.length_append, List.length_append, two_length]; omega
  have htk : (packB l ps).take ((packB l ps).length - 8) = allB l ps := by
    rw [packB, List.take_append_of_le_length (by rw [← packB]; omega), List.take_of_length_le (by rw [← packB]; omega)]
  have hdr : (packB l ps).drop ((packB l ps).length - 8) = dg (allB l ps) := by
    rw [packB, List.drop_append_of_le_length (by rw [← packB]; omega), List.drop_of_length_le (by rw [← packB]; omega), List.nil_append]
  have hform : packB l ps = (ps.flatten ++ listB l ps) ++ (two (listB l ps).length ++ dg (allB l ps)) := by
    rw [packB]
    generalize dg (allB l ps) = d
    rw [allB]; simp only [List.append_assoc]
  have hpre : (ps.flatten ++ listB l ps).length = (packB l ps).length - 10 := by rw [List.length_append]; omega
  have hb0 : (packB l ps).getD ((packB l ps).length - 10) 0 = UInt8.ofNat ((listB l ps).length % 256) := by
    rw [← hpre, hform, List.getD_eq_getElem?_getD, List.getElem?_append_right (Nat.le_refl _), Nat.sub_self]; rfl
  have hb1 : (packB l ps).getD ((packB l ps).length - 9) 0 = UInt8.ofNat ((listB l ps).length / 256) := by
    rw [show (packB l ps).length - 9 = (ps.flatten ++ listB l ps).length + 1 from by omega, hform, List.getD_eq_getElem?_getD, List.getElem?_append_right (by omega), Nat.add_sub_cancel_left]; rfl
  have hlen : lenL (packB l ps) = (listB l ps).length := by
    unfold lenL
    rw [hb0, hb1]
    exact two_back _ (by omega)
  have hmid : ((packB l ps).take ((packB l ps).length - 10)).drop ((packB l ps).length - 10 - (listB l ps).length) = listB l ps := by
    rw [← hpre, hform, List.take_append_of_le_length (Nat.le_refl _), List.take_of_length_le (Nat.le_refl _), List.length_append, Nat.add_sub_cancel, List.drop_append_of_le_length (Nat.le_refl _), List.drop_of_length_le (Nat.le_refl _), List.nil_append]
  unfold ls
  rw [if_neg (by omega), htk, hdr, if_neg (fun h => h rfl), hlen, if_neg (by omega), hmid, show (packB l ps).length - 10 - (listB l ps).length = ps.flatten.length from by omega]
  have hg := Nm.get_put l.length (rowsB l ps) (by omega)
  have hd : (listB l ps).drop (Nm.put l.length).length = rowsB l ps := by
    rw [listB, List.drop_append_of_le_length (Nat.le_refl _), List.drop_of_length_le (Nat.le_refl _), List.nil_append]
  unfold lst
  rw [show Nm.getN (listB l ps) = (l.length, (Nm.put l.length).length, 0) from hg]
  simp only [hd]
  rw [if_neg (fun h => h rfl), if_neg h40, ents_rows _ l [] ps 0 [] hl he rfl hp (by omega), List.nil_append]

/-- each blob at its place -/
theorem one_of (op : Bs → Bs × Int) (b : Bl) (p pre post : Bs) (hb : bErr b = 0) (hop : op p = (b.2, 0)) :
    one op (pre ++ (p ++ post)) ⟨bid b, b.1, (pre.length : Nat), (p.length : Nat)⟩ = (b, 0) := by
  obtain ⟨hk, _⟩ := bErr_ok hb
  have e : ((pre ++ (p ++ post)).drop pre.length).take p.length = p := by
    rw [List.drop_append_of_le_length (Nat.le_refl _), List.drop_of_length_le (Nat.le_refl _), List.nil_append, List.take_append_of_le_length (Nat.le_refl _), List.take_of_length_le (Nat.le_refl _)]
  unfold one
  rw [if_neg (by simp only [List.length_append]; omega), if_neg (fun h => h hk)]
  simp only [Int.toNat_natCast, e, hop]
  rw [if_neg (fun h => h rfl), if_neg (fun h => h rfl)]
theorem mErr_each : ∀ (l was : List Bl), mErr was l = 0 → ∀ b ∈ l, bErr b = 0
  | [], _, _, _, hb => by simp at hb
  | a :: l, was, h, b, hb => by
    rw [mErr] at h
    by_cases e0 : bErr a ≠ 0
    · rw [if_pos e0] at h; exact absurd h e0
    rw [if_neg e0] at h
    split at h
    · omega
    split at h
    · omega
    rcases List.mem_cons.1 hb with rfl | hb
    · exact Classical.not_not.1 e0
    · exact mErr_each l _ h b hb
/-- blobs and what they are pressed to -/
def Prs (op : Bs → Bs × Int) : List Bl → List Bs → Prop
  | [], [] => True
  | b :: l, p :: ps => op p = (b.2, 0) ∧ p.length ≤ 4097 ∧ Prs op l ps
  | _, _ => False
theorem Prs.length {op : Bs → Bs × Int} : ∀ {l : List Bl} {ps : List Bs}, Prs op l ps → l.length = ps.length
  | [], [], _ => rfl
  | [], _ :: _, h => h.elim
  | _ :: _, [], h => h.elim
  | _ :: l, _ :: ps, h => by rw [List.length_cons, List.length_cons, Prs.length h.2.2]
theorem Prs.le {op : Bs → Bs × Int} : ∀ {l : List Bl} {ps : List Bs}, Prs op l ps → ∀ p ∈ ps, p.length ≤ 4097
  | [], [], _, _, hp => by simp at hp
  | [], _ :: _, h, _, _ => h.elim
  | _ :: _, [], h, _, _ => h.elim
  | _ :: l, q :: ps, h, p, hp => by
    rcases List.mem_cons.1 hp with rfl | hp
    · exact h.2.1
    · exact Prs.le h.2.2 p hp
/-- every row of the list tells its blob -/
theorem one_each (op : Bs → Bs × Int) (s post : Bs) : ∀ (l : List Bl) (ps : List Bs) (pre : Bs), Prs op l ps → (∀ b ∈ l, bErr b = 0) → s = pre ++ (ps.flatten ++ post) →
    ∀ (i : Nat) (h : i < l.length), ∃ x, (entsOf l ps pre.length)[i]? = some x ∧ one op s x = (l[i], 0) ∧ x.id = bid l[i] ∧ x.kind = l[i].1
  | [], _, _, _, _, _, i, h => by simp at h
  | _ :: _, [], _, h, _, _, _, _ => h.elim
  | b :: l, p :: ps, pre, hP, hb, hs, i, h => by
    cases i with
    | zero =>
      refine ⟨_, rfl, ?_, rfl, rfl⟩
      rw [hs, List.flatten_cons, List.append_assoc]
      exact one_of op b p pre _ (hb b (List.mem_cons_self ..)) hP.1
    | succ i =>
      have := one_each op s post l ps (pre ++ p) hP.2.2 (fun a ha => hb a (List.mem_cons_of_mem _ ha)) (by rw [hs, List.flatten_cons]; simp only [List.append_assoc]) i (by simpa using h)
      rw [List.length_append] at this
      exact this
theorem ones_all (op : Bs → Bs × Int) (s post : Bs) : ∀ (l : List Bl) (ps : List Bs) (pre : Bs) (out : List Bl), Prs op l ps → (∀ b ∈ l, bErr b = 0) → s = pre ++ (ps.flatten ++ post) →
    ones op s (entsOf l ps pre.length) out = (out ++ l, 0)
  | [], [], _, out, _, _, _ => by simp [entsOf, ones]
  | [], _ :: _, _, _, h, _, _ => h.elim
  | _ :: _, [], _, _, h, _, _ => h.elim
  | b :: l, p :: ps, pre, out, hP, hb, hs => by
    have h1 : one op s ⟨bid b, b.1, (pre.length : Nat), (p.length : Nat)⟩ = (b, 0) := by
      rw [hs, List.flatten_cons, List.append_assoc]
      exact one_of op b p pre _ (hb b (List.mem_cons_self ..)) hP.1
    have h2 := ones_all op s post l ps (pre ++ p) (out ++ [b]) hP.2.2 (fun a ha => hb a (List.mem_cons_of_mem _ ha)) (by rw [hs, List.flatten_cons]; simp only [List.append_assoc])
    rw [List.length_append] at h2
    rw [entsOf, ones, h1, if_neg (fun h => h rfl), h2, List.append_assoc]
    rfl
theorem packB_form (l : List Bl) (ps : List Bs) : packB l ps = [] ++ (ps.flatten ++ (listB l ps ++ two (listB l ps).length ++ dg (allB l ps))) := by
  rw [packB]
  generalize dg (allB l ps) = d
  rw [allB, List.nil_append, List.append_assoc, List.append_assoc]
theorem makeErr_each {l : List Bl} (h : makeErr l = 0) : ∀ b ∈ l, bErr b = 0 := by
  unfold makeErr at h
  split at h
  · omega
  · exact mErr_each l [] h
/-- PackBack's own -/
theorem split_pack (op : Bs → Bs × Int) (l : List Bl) (ps : List Bs) (he : makeErr l = 0) (hP : Prs op l ps) : split op (packB l ps) = (l, 0) := by
  rw [split, ls_pack l ps hP.length he hP.le, if_neg (fun h => h rfl)]
  exact ones_all op _ _ l ps [] [] hP (makeErr_each he) (packB_form l ps)
theorem one_pack (op : Bs → Bs × Int) (l : List Bl) (ps : List Bs) (he : makeErr l = 0) (hP : Prs op l ps) (i : Nat) (h : i < l.length) :
    ∃ x, (entsOf l ps 0)[i]? = some x ∧ one op (packB l ps) x = (l[i], 0) ∧ x.id = bid l[i] ∧ x.kind = l[i].1 :=
  one_each op _ _ l ps [] hP (makeErr_each he) (packB_form l ps) i h

theorem dg_inj (s t : Bs) (h : dg s = dg t) : Mx.narrow 64 s = Mx.narrow 64 t := by
  unfold dg at h
  exact low8_inj (Mx.narrow_lt 64 s) (Mx.narrow_lt 64 t) h
theorem byte_take (u : Bs) (n j : Nat) : Mx.byteAt (u.take n) j = if j < n then (u.getD j 0).toNat else 0 := by
  unfold Mx.byteAt
  rw [List.getD_eq_getElem?_getD, List.getElem?_take]
  split
  · rw [List.getD_eq_getElem?_getD]
  · rfl
/-- texts of one length that are unlike in one byte have unlike digests -/
theorem dg_other (s t : Bs) (k n : Nat) (hl : s.length = t.length) (hsz : s.length < 18446744073709551616) (hkn : k < n) (hne : s.getD k 0 ≠ t.getD k 0) (hsame : ∀ j, j ≠ k → s.getD j 0 = t.getD j 0) : dg (s.take n) ≠ dg (t.take n) := by
  intro h
  have heq := Mx.apart (s.take n) (t.take n) (k / 8) (by rw [List.length_take, List.length_take, hl]) (by rw [List.length_take]; exact Nat.lt_of_le_of_lt (Nat.min_le_right _ _) hsz) (fun j hj => by
    rw [byte_take, byte_take, hsame j (fun e => hj (by rw [e]))]) (dg_inj _ _ h)
  have h1 := byte_take s n k
  have h2 := byte_take t n k
  rw [if_pos hkn] at h1 h2
  rw [heq] at h1
  exact hne (UInt8.toNat_inj.1 (h1.symm.trans h2))
/-- PackTells' own: of a pack in which one byte was changed nothing is told -/
theorem ls_other (s t : Bs) (k : Nat) (hl : s.length = t.length) (hsz : s.length < 18446744073709551616) (hs : (ls s).2 = 0) (hk : k < s.length) (hne : s.getD k 0 ≠ t.getD k 0) (hsame : ∀ j, j ≠ k → s.getD j 0 = t.getD j 0) : ls t = ([], 6) := by
  unfold ls at hs
  by_cases h10 : s.length < 10
  · rw [if_pos h10] at hs; simp at hs
  rw [if_neg h10] at hs
  by_cases hsum : dg (s.take (s.length - 8)) ≠ s.drop (s.length - 8)
  · rw [if_pos hsum] at hs; simp at hs
  clear hs
  have hsum := Classical.not_not.1 hsum
  unfold ls
  rw [← hl, if_neg h10, if_pos]
  intro ht
  by_cases hlt : k < s.length - 8
  · have hd : s.drop (s.length - 8) = t.drop (s.length - 8) := by
      apply List.ext_getElem?
      intro i
      rw [List.getElem?_drop, List.getElem?_drop]
      by_cases hi : s.length - 8 + i < s.length
      · have := hsame (s.length - 8 + i) (by omega)
        rw [List.getD_eq_getElem?_getD, List.getD_eq_getElem?_getD, List.getElem?_eq_getElem hi, List.getElem?_eq_getElem (by omega)] at this
        rw [List.getElem?_eq_getElem hi, List.getElem?_eq_getElem (by omega)]
        exact congrArg some this
      · rw [List.getElem?_eq_none (by omega), List.getElem?_eq_none (by omega)]
    exact dg_other s t k _ hl hsz hlt hne hsame (by rw [hsum, hd, ht])
  · have htk : s.take (s.length - 8) = t.take (s.length - 8) := by
      apply List.ext_getElem?
      intro i
      rw [List.getElem?_take, List.getElem?_take]
      by_cases hi : i < s.length - 8
      · rw [if_pos hi, if_pos hi]
        have := hsame i (by omega)
        rw [List.getD_eq_getElem?_getD, List.getD_eq_getElem?_getD, List.getElem?_eq_getElem (by omega), List.getElem?_eq_getElem (by omega)] at this
        rw [List.getElem?_eq_getElem (by omega), List.getElem?_eq_getElem (by omega)]
        exact congrArg some this
      · rw [if_neg hi, if_neg hi]
    have hd : s.drop (s.length - 8) = t.drop (s.length - 8) := by rw [← hsum, htk, ht]
    have := congrArg (fun u => u[k - (s.length - 8)]?) hd
    simp only [List.getElem?_drop] at this
    rw [show s.length - 8 + (k - (s.length - 8)) = k from by omega] at this
    apply hne
    rw [List.getD_eq_getElem?_getD, List.getD_eq_getElem?_getD, this]
theorem split_other (op : Bs → Bs × Int) (t : Bs) (h : ls t = ([], 6)) : split op t = ([], 6) := by
  rw [split, h, if_pos (by decide)]

/-- PackTrue's own: a blob that is told has the digest that it was looked for by -/
theorem one_true (op : Bs → Bs × Int) (s : Bs) (x : En) (hop : ∀ u, (op u).2 = 0 → (op u).1.length ≤ 4096) :
    ((one op s x).2 ≠ 0 → (one op s x).1 = (0, [])) ∧ ((one op s x).2 = 0 → bErr (one op s x).1 = 0 ∧ bid (one op s x).1 = x.id ∧ (one op s x).1.1 = x.kind) := by
  unfold one
  split
  · exact ⟨fun _ => rfl, fun h => by simp at h⟩
  split
  · exact ⟨fun _ => rfl, fun h => by simp at h⟩
  rename_i hk
  simp only
  split
  · rename_i h0
    exact ⟨fun _ => rfl, fun h => absurd h h0⟩
  rename_i h0
  split
  · exact ⟨fun _ => rfl, fun h => by simp at h⟩
  rename_i h1
  refine ⟨fun h => absurd rfl h, fun _ => ⟨?_, Classical.not_not.1 h1, rfl⟩⟩
  unfold bErr
  have := hop _ (Classical.not_not.1 h0)
  rw [if_pos (Classical.not_not.1 hk), if_neg (by show ¬ 4096 < (op _).1.length; omega)]
end Pk
end Go.Proofs.YtimdioacmojkeaaGreatDoor

namespace Go.Proofs.YtimdioacmojkeaaGreatDoor
open Go.RowKit

/-- a blob as it is handed in -/
structure Blb where
  kind : Int
  bytes : ByteArray

def Blb.p (b : Blb) : Pk.Bl := (b.kind, b.bytes.data.toList)

theorem Blb.p_inj {a b : Blb} (h : a.p = b.p) : a = b := by
  obtain ⟨k, ⟨⟨s⟩⟩⟩ := a
  obtain ⟨k', ⟨⟨s'⟩⟩⟩ := b
  simp only [Blb.p, Prod.mk.injEq] at h
  obtain ⟨rfl, rfl⟩ := h
  rfl

def blC (b : Blb) : List Value := [.int .i64 b.kind, .string b.bytes]

def blV (b : Blb) : Value := .agg #[.int .i64 b.kind, .string b.bytes]

theorem blC_length (b : Blb) : (blC b).length = 2 := rfl

theorem blC_one (b : Blb) : ∀ u ∈ blC b, u.oneCell' = true := by
  intro u hu
  simp [blC] at hu
  rcases hu with rfl | rfl <;> rfl

/-- a row of a pack's list as it is handed in -/
structure Ent where
  id : List UInt8
  hid : id.length = 8
  kind : Int
  at_ : Int
  len : Int

def Ent.p (e : Ent) : Pk.En := ⟨e.id, e.kind, e.at_, e.len⟩

def enC (e : Ent) : List Value := e.id.map B ++ [.int .i64 e.kind, .int .i64 e.at_, .int .i64 e.len]

def enV (e : Ent) : Value := .agg (enC e).toArray

theorem enC_length (e : Ent) : (enC e).length = 11 := by rw [enC, List.length_append, List.length_map, e.hid]; rfl

theorem enC_one (e : Ent) : ∀ u ∈ enC e, u.oneCell' = true := by
  intro u hu
  rw [enC, List.mem_append] at hu
  rcases hu with hu | hu
  · obtain ⟨b, _, rfl⟩ := List.mem_map.1 hu; rfl
  · simp only [List.mem_cons, List.not_mem_nil, or_false] at hu
    rcases hu with rfl | rfl | rfl <;> rfl

abbrev Bx := Rx 2 blC

abbrev Ex := Rx 11 enC

theorem Rx.blob {w : World} {a : Option Addr} {n c : Nat} {l : List Blb} (h : Bx w (.slice a n c) l) (j : Nat) (t : Blb) (hj : l[j]? = some t) : ∃ bk o, a = some ⟨bk, o, none⟩ ∧ bk < w.heap.size ∧
    w.cell? ⟨bk, o + j * 2, none⟩ = some (.int .i64 t.kind) ∧ w.cell? ⟨bk, o + j * 2 + 1, none⟩ = some (.string t.bytes) := by
  obtain ⟨bk, o, h1, h2, h3⟩ := h.get j t hj
  exact ⟨bk, o, h1, h2, h3 0 _ rfl, h3 1 _ rfl⟩

end Go.Proofs.YtimdioacmojkeaaGreatDoor

namespace Go.Proofs.YtimdioacmojkeaaGreatDoor
open Go.RowKit Go.ChangeShapes Go.WideShapes Go.Deep Go.Joins
set_option maxRecDepth 20000

section
variable {H : Type} {enc : TypeId × Value → H} {w : World} {base : Nat} {spare : Nat → Bool} {held : Bool}

theorem choose_row {α : Type} {q : Nat → α → Prop} : ∀ (n : Nat), (∀ i, i < n → ∃ t, q i t) → ∃ l : List α, l.length = n ∧ ∀ i t, l[i]? = some t → q i t
  | 0, _ => ⟨[], rfl, fun i t h => by simp at h⟩
  | n + 1, h => by
    obtain ⟨l, hl, hq⟩ := choose_row n fun i hi => h i (by omega)
    obtain ⟨t, ht⟩ := h n (by omega)
    refine ⟨l ++ [t], by simp [hl], fun i u hu => ?_⟩
    by_cases hi : i < n
    · rw [List.getElem?_append_left (by omega)] at hu
      exact hq i u hu
    · have : i = n := by
        have := (List.getElem?_eq_some_iff.1 hu).1
        simp at this
        omega
      subst this
      rw [List.getElem?_append_right (by omega), hl] at hu
      obtain rfl : t = u := by simpa using hu
      exact ht

theorem trod_arr_mk {P : Program} {t e : TypeId} {n m : Nat} {cs : List Value} {xs : List (DataW H × List MemPlace)} (ht : P.underlying t = some (.array n e)) (hl : cs.length = P.cellsOf t) (hx : xs.length = n)
    (h : ∀ i, i < n → DataW.trod enc P w base spare held m e ((cs.drop (i * P.cellsOf e)).take (P.cellsOf e)) = xs[i]?) : DataW.trod enc P w base spare held (m + 1) t cs = some (.agg (xs.map (·.1)), xs.flatMap (·.2)) := by
  unfold DataW.trod
  rw [ht]
  simp only [hl, if_true]
  rw [mapM_some_of_get (List.range n) xs (by rw [List.length_range, hx]) (fun i x hix => by
    obtain ⟨hi, rfl⟩ := List.getElem?_eq_some_iff.1 hix
    rw [List.getElem_range]
    exact h i (by simpa using hi))]
  rfl

def byD (H : Type) (b : UInt8) : DataW H := .lit (.int .u8 (b.toNat : Int))

theorem ce_id : Tryz.prog.cellsOf 29 = 8 := by kernel_rfl

theorem ce_u8 : Tryz.prog.cellsOf 5 = 1 := by kernel_rfl

theorem ce_int : Tryz.prog.cellsOf 3 = 1 := by kernel_rfl

theorem wf_by {n : Int} (h : (Lit.int .u8 n).wf = true) : ∃ b : UInt8, n = (b.toNat : Int) := by
  simp [Lit.wf, IntKind.min, IntKind.max, IntKind.signed, IntKind.bits] at h
  refine ⟨UInt8.ofNat n.toNat, ?_⟩
  rw [UInt8.toNat_ofNat']
  omega

theorem by_opened : ∀ (cs : List Value) (xs : List (DataW H × List MemPlace)), xs.length = cs.length →
    (∀ j, j < cs.length → ∃ m, DataW.trod enc Tryz.prog w base spare held m 5 ((cs.drop j).take 1) = xs[j]?) → ∃ l : List UInt8, cs = l.map B ∧ xs = l.map (fun b => (byD H b, []))
  | [], [], _, _ => ⟨[], rfl, rfl⟩
  | c :: cs, x :: xs, hl, h => by
    obtain ⟨m, h0⟩ := h 0 (by simp)
    obtain ⟨n, hc, hx, hw⟩ := DataW.trod_int Tryz.underlying5 (show DataW.trod enc Tryz.prog w base spare held m 5 [c] = some x from by simpa using h0)
    obtain ⟨b, rfl⟩ := wf_by hw
    obtain ⟨l, hcs, hxs⟩ := by_opened cs xs (by simpa using hl) (fun j hj => by
      obtain ⟨m, hm⟩ := h (j + 1) (by simpa using hj)
      exact ⟨m, by simpa using hm⟩)
    refine ⟨b :: l, ?_, ?_⟩
    · rw [List.map_cons, ← hcs]
      have : c = .int .u8 (b.toNat : Int) := by simpa using hc
      rw [this]; rfl
    · rw [List.map_cons, ← hxs, hx]; rfl

theorem trod_id {l : List UInt8} (hl : l.length = 8) : DataW.trod enc Tryz.prog w base spare held 2 29 (l.map B) = some (.agg (l.map (byD H)), []) := by
  have hb : ∀ b : UInt8, (Lit.int .u8 (b.toNat : Int)).wf = true := fun b => by
    have := b.toNat_lt
    simp [Lit.wf, IntKind.min, IntKind.max, IntKind.signed, IntKind.bits]; omega
  have hlm : (l.map B).length = 8 := by rw [List.length_map, hl]
  have := trod_arr_mk (enc := enc) (w := w) (base := base) (spare := spare) (held := held) (m := 1) (xs := l.map (fun b => (byD H b, ([] : List MemPlace)))) (show Tryz.prog.underlying 29 = some (.array 8 5) from by kernel_rfl) (by rw [ce_id, hlm]) (by rw [List.length_map, hl]) (fun j hj => by
    rw [ce_u8, Nat.mul_one]
    have hjl : j < l.length := by omega
    rw [List.getElem?_map, List.getElem?_eq_getElem hjl]
    have hd : ((l.map B).drop j).take 1 = [B l[j]] := by
      rw [List.drop_eq_getElem_cons (by rw [List.length_map]; exact hjl), List.getElem_map]; rfl
    rw [hd]
    exact trod_int_mk 0 Tryz.underlying5 (hb l[j]))
  rw [this, List.map_map]
  simp [Function.comp_def]

/-- eight bytes of an ID -/
theorem open_id8 {n : Nat} {cs : List Value} {x : DataW H × List MemPlace} (hc : cs.length = 8) (h : DataW.trod enc Tryz.prog w base spare held n 29 cs = some x) :
    ∃ l : List UInt8, l.length = 8 ∧ cs = l.map B ∧ x = (.agg (l.map (byD H)), []) := by
  obtain ⟨xs, m, rfl, hx, _, hxl, hxs⟩ := DataW.trod_array (show Tryz.prog.underlying 29 = some (.array 8 5) from by kernel_rfl) h
  simp only [ce_u8, Nat.mul_one] at hxs
  obtain ⟨l, hl, hxl2⟩ := by_opened (enc := enc) (w := w) (base := base) (spare := spare) (held := held) cs xs (by rw [hxl, hc]) (fun j hj => ⟨m, hxs j (by omega)⟩)
  refine ⟨l, by rw [← List.length_map (f := B), ← hl]; exact hc, hl, ?_⟩
  rw [hx, hxl2]
  simp [List.map_map, Function.comp_def]

/-- rows of things of k cells each -/
theorem open_rows {α : Type} {k : Nat} {C : α → List Value} {q : α → Prop} {T E : TypeId} (hu : Tryz.prog.underlying T = some (.slice E)) (hk : Tryz.prog.cellsOf E = k) (hk0 : 0 < k) (hC : ∀ t, (C t).length = k)
    (ho : ∀ n cs (x : DataW H × List MemPlace), cs.length = k → DataW.trod enc Tryz.prog w base spare held n E cs = some x → ∃ t, cs = C t ∧ q t)
    {fuel : Nat} {sa : Option Addr} {len cap : Nat} {x : DataW H × List MemPlace} (h : DataW.trod enc Tryz.prog w base spare held fuel T [.slice sa len cap] = some x) (hlt : ∀ y ∈ x.2, y.block < w.heap.size) :
    ∃ l : List α, Rx k C w (.slice sa len cap) l ∧ (∀ b ∈ l, q b) ∧ (l.length = 0 ∨ ∃ elems sp, x.1 = .slice elems sp ∧ l.length = elems.length) := by
  rcases open_slice hu h with ⟨hcs, hx⟩ | ⟨a, len', cap', m, n, D, Pl, hcs, _, hl, hm, hmm, hx, hall⟩
  · simp at hcs
    obtain ⟨rfl, rfl, rfl⟩ := hcs
    exact ⟨[], ⟨.inl ⟨⟨_, _, rfl⟩, rfl⟩, _, _, _, rfl, Nat.le_refl _, by omega⟩, (fun b hb => by simp at hb), .inl rfl⟩
  · simp at hcs
    obtain ⟨rfl, rfl, rfl⟩ := hcs
    have hlm : len ≤ m := by rw [hmm]; split <;> omega
    rw [hk] at hall
    obtain ⟨L, hL, hT⟩ := choose_row (q := fun i t => w.cells? base (a.add (i * k)) k = some (C t) ∧ q t) len (fun i hi => by
      obtain ⟨cs', h1, h2⟩ := hall i (by omega)
      obtain ⟨_, hlen, _⟩ := World.cells?_some h1
      obtain ⟨t, rfl, h3⟩ := ho _ _ _ hlen h2
      exact ⟨t, h1, h3⟩)
    subst hx
    have hm' : cap ≤ 9223372036854775807 := by unfold maxLen at hm; omega
    have hok : ∀ b ∈ L, q b := fun b hb => by
      obtain ⟨i, hi, rfl⟩ := List.getElem_of_mem hb
      exact (hT i _ (List.getElem?_eq_getElem hi)).2
    refine ⟨L, ?_, hok, .inr ⟨_, _, rfl, by simp [hL]⟩⟩
    by_cases hc0 : len = 0
    · subst hc0
      exact ⟨.inl ⟨⟨_, _, rfl⟩, List.length_eq_zero_iff.1 hL⟩, _, _, _, rfl, hl, hm'⟩
    · have hcell : ∀ j t, L[j]? = some t → ∀ r v, (C t)[r]? = some v → w.cell? (a.add (j * k + r)) = some v := fun j t hj r v hv => by
        obtain ⟨_, hlen, hc⟩ := World.cells?_some (hT j t hj).1
        have hr : r < k := by
          have := (List.getElem?_eq_some_iff.1 hv).1
          rwa [hC] at this
        have := hc r hr
        rw [add_add, hv] at this
        exact this
      obtain ⟨b, off, spot⟩ := a
      have hspot : spot = none := by
        have h0 : ((C (L[0]'(by omega)))[0]?) = some ((C (L[0]'(by omega)))[0]'(by rw [hC]; exact hk0)) := List.getElem?_eq_getElem _
        simpa [Addr.add] using World.cell?_spot (hcell 0 _ (List.getElem?_eq_getElem (by omega)) 0 _ h0)
      subst hspot
      have hpos : 0 < m * k := Nat.mul_pos (by omega) hk0
      have hbW : b < w.heap.size := hlt (.cell b off) (List.mem_append_left _ (MemPlace.mem_row.2 ⟨0, by rw [hk]; exact hpos, by simp⟩))
      refine ⟨.inr ⟨b, off, cap, by rw [hL], hbW, fun j t hj r u hu => ?_⟩, _, _, _, rfl, hl, hm'⟩
      have e := hcell j t hj r u hu
      rw [add_plain] at e
      rw [Nat.add_assoc]
      exact e

theorem okWide_arr {P : Program} {r : Reach} {b0 : Nat} {t e : TypeId} {n : Nat} {v : Value} (ht : P.underlying t = some (.array n e)) (h : Value.okWide P w r b0 t v) : ∃ cs, v = .agg cs ∧ cs.size = P.cellsOf t := by
  simp only [Value.okWide, ht] at h
  obtain ⟨cs, h1, h2, _⟩ := h
  exact ⟨cs, h1, h2⟩

theorem open_idv {r : Reach} {b0 : Nat} {v : Value} {d : DataW H} {p : List MemPlace} (hv : Value.okWide Tryz.prog w r b0 29 v) (h : DataW.Trod enc Tryz.prog w base spare held 29 v d p) :
    ∃ l : List UInt8, v = idV l ∧ d = .agg (l.map (byD H)) ∧ p = [] ∧ l.length = 8 := by
  obtain ⟨cs, rfl, hsz⟩ := okWide_arr (show Tryz.prog.underlying 29 = some (.array 8 5) from by kernel_rfl) hv
  rw [ce_id] at hsz
  obtain ⟨fuel, hf⟩ := h
  obtain ⟨l, hl, hcs, hx⟩ := open_id8 (cs := cs.toList) (by simpa using hsz) hf
  obtain ⟨rfl, rfl⟩ := Prod.mk.inj hx
  refine ⟨l, ?_, rfl, rfl, hl⟩
  have : cs.toList = l.map B := hcs
  rw [idV, ← this]

theorem shut_idv {l : List UInt8} (hl : l.length = 8) : DataW.Trod enc Tryz.prog w base spare held 29 (idV l) (.agg (l.map (byD H))) [] :=
  ⟨2, trod_id hl⟩

end

end Go.Proofs.YtimdioacmojkeaaGreatDoor

namespace Go.Proofs.YtimdioacmojkeaaGreatDoor
open Go.RowKit Go.ChangeShapes Go.WideShapes Go.Deep Go.Joins
set_option maxRecDepth 20000

/-- what is sure of blobs that come in -/
def BOk (l : List Blb) : Prop := ∀ b ∈ l, (Lit.int .i64 b.kind).wf = true ∧ b.bytes.size ≤ 9223372036854775807

def EOk (e : Ent) : Prop := (Lit.int .i64 e.kind).wf = true ∧ (Lit.int .i64 e.at_).wf = true ∧ (Lit.int .i64 e.len).wf = true

section
variable {H : Type} {enc : TypeId × Value → H} {w : World} {base : Nat} {spare : Nat → Bool} {held : Bool}

theorem bl_fields : ∃ f0 f1, Tryz.prog.underlying 37 = some (.struct #[f0, f1]) ∧ f0.type = 3 ∧ f0.offset = 0 ∧ f1.type = 9 ∧ f1.offset = 1 :=
  ⟨_, _, Tryz.underlying37, rfl, rfl, rfl, rfl⟩

theorem open_blob {n : Nat} {cs : List Value} {x : DataW H × List MemPlace} (hc : cs.length = 2) (h : DataW.trod enc Tryz.prog w base spare held n 37 cs = some x) : ∃ t : Blb, cs = blC t ∧ (Lit.int .i64 t.kind).wf = true ∧ t.bytes.size ≤ 9223372036854775807 := by
  obtain ⟨f0, f1, hu, t0, o0, t1, o1⟩ := bl_fields
  have k0 : Tryz.prog.cellsOf 3 = 1 := by kernel_rfl
  have k1 : Tryz.prog.cellsOf 9 = 1 := by kernel_rfl
  obtain ⟨y0, y1, m, _, _, g0, g1⟩ := trod_struct2 hu h
  match cs, hc with
  | [v0, v1], _ =>
    simp only [t0, o0, k0, t1, o1, k1] at g0 g1
    obtain ⟨a, ha, _, hw⟩ := DataW.trod_int Tryz.underlying3 g0
    obtain ⟨b, hb, _, hs⟩ := DataW.trod_string Tryz.underlying9 g1
    obtain rfl : v0 = .int .i64 a := by simpa using ha
    obtain rfl : v1 = .string b := by simpa using hb
    exact ⟨⟨a, b⟩, rfl, hw, by unfold maxLen at hs; exact hs⟩

theorem open_blobs {fuel : Nat} {sa : Option Addr} {len cap : Nat} {x : DataW H × List MemPlace} (h : DataW.trod enc Tryz.prog w base spare held fuel 27 [.slice sa len cap] = some x) (hlt : ∀ y ∈ x.2, y.block < w.heap.size) :
    ∃ l : List Blb, Bx w (.slice sa len cap) l ∧ BOk l ∧ (l.length = 0 ∨ ∃ elems sp, x.1 = .slice elems sp ∧ l.length = elems.length) := by
  rcases open_slice Tryz.underlying27 h with ⟨hcs, hx⟩ | ⟨a, len', cap', m, n, D, Pl, hcs, _, hl, hm, hmm, hx, hall⟩
  · simp at hcs
    obtain ⟨rfl, rfl, rfl⟩ := hcs
    exact ⟨[], ⟨.inl ⟨⟨_, _, rfl⟩, rfl⟩, _, _, _, rfl, Nat.le_refl _, by omega⟩, (fun b hb => by simp at hb), .inl rfl⟩
  · simp at hcs
    obtain ⟨rfl, rfl, rfl⟩ := hcs
    have hlm : len ≤ m := by rw [hmm]; split <;> omega
    have k3 : Tryz.prog.cellsOf 37 = 2 := by kernel_rfl
    rw [k3] at hall
    obtain ⟨L, hL, hT⟩ := choose_row (q := fun i t => w.cells? base (a.add (i * 2)) 2 = some (blC t) ∧ (Lit.int .i64 t.kind).wf = true ∧ t.bytes.size ≤ 9223372036854775807) len (fun i hi => by
      obtain ⟨cs', h1, h2⟩ := hall i (by omega)
      obtain ⟨_, hlen, _⟩ := World.cells?_some h1
      obtain ⟨t, rfl, h3⟩ := open_blob hlen h2
      exact ⟨t, h1, h3⟩)
    subst hx
    have hm' : cap ≤ 9223372036854775807 := by unfold maxLen at hm; omega
    have hok : BOk L := fun b hb => by
      obtain ⟨i, hi, rfl⟩ := List.getElem_of_mem hb
      exact (hT i _ (List.getElem?_eq_getElem hi)).2
    refine ⟨L, ?_, hok, .inr ⟨_, _, rfl, by simp [hL]⟩⟩
    by_cases hc0 : len = 0
    · subst hc0
      exact ⟨.inl ⟨⟨_, _, rfl⟩, List.length_eq_zero_iff.1 hL⟩, _, _, _, rfl, hl, hm'⟩
    · have hcell : ∀ j t, L[j]? = some t → ∀ r v, (blC t)[r]? = some v → w.cell? (a.add (j * 2 + r)) = some v := fun j t hj r v hv => by
        obtain ⟨_, hlen, hc⟩ := World.cells?_some (hT j t hj).1
        have hr : r < 2 := by
          have := (List.getElem?_eq_some_iff.1 hv).1
          simpa [blC] using this
        have := hc r hr
        rw [add_add, hv] at this
        exact this
      obtain ⟨b, off, spot⟩ := a
      have hspot : spot = none := by simpa [Addr.add] using World.cell?_spot (hcell 0 _ (List.getElem?_eq_getElem (by omega)) 0 _ rfl)
      subst hspot
      have hbW : b < w.heap.size := hlt (.cell b off) (List.mem_append_left _ (MemPlace.mem_row.2 ⟨0, by rw [k3]; omega, by simp⟩))
      refine ⟨.inr ⟨b, off, cap, by rw [hL], hbW, fun j t hj r u hu => ?_⟩, _, _, _, rfl, hl, hm'⟩
      have e := hcell j t hj r u hu
      rw [add_plain] at e
      rw [Nat.add_assoc]
      exact e

def entD (H : Type) (e : Ent) : DataW H := .agg [.agg (e.id.map (byD H)), .lit (.int .i64 e.kind), .lit (.int .i64 e.at_), .lit (.int .i64 e.len)]

end

end Go.Proofs.YtimdioacmojkeaaGreatDoor

namespace Go.Proofs.YtimdioacmojkeaaGreatDoor
open Go.RowKit Go.WideMaps
open Go.Maps (Keyed IsMap)
set_option maxRecDepth 20000

theorem laid_out : laidOutB Tryz.prog = true := by kernel_rfl

theorem id_row : (29 : TypeId) < Tryz.prog.types.size := of_decide_eq_true (by kernel_rfl)

theorem id_under : Tryz.prog.underlying 29 = some (.array 8 5) := by kernel_rfl

theorem id_wide : (match Tryz.prog.underlying 29 with | some (.array _ _) | some (.struct _) => true | _ => false) = true := by rw [id_under]

theorem id_law : KeyLaw Tryz.prog 29 := deep_law_laid laid_out (m := 2) (by omega) id_row (by kernel_rfl) id_wide

theorem id_keyed : Keyed Tryz.prog 29 := Keyed.of_law id_law

theorem id_arr : ArrKey Tryz.prog 29 5 8 := ⟨id_under, by kernel_rfl, by kernel_rfl, ce_id⟩

theorem some_types : ∃ m, Tryz.prog.types.size = m + 1 := ⟨_, (Nat.succ_pred_eq_of_pos (Nat.lt_of_le_of_lt (Nat.zero_le _) id_row)).symm⟩

theorem key_there {x : List UInt8} (hx : x.length = 8) : ∃ l, keyOf Tryz.prog 29 (.agg (x.map B).toArray) = some l := by
  obtain ⟨ls, _, _, h⟩ := open_arr (H := Unit) (enc := fun _ => ()) (W := World.settled Tryz.prog default) (base := 0) (sp := fun _ => true) (held := true) id_arr Tryz.underlying5 some_types (xs := (x.map B).toArray) (by simp [hx]) ⟨2, by
    have := trod_id (H := Unit) (enc := fun _ => ()) (w := World.settled Tryz.prog default) (base := 0) (spare := fun _ => true) (held := true) hx
    simpa [Value.cells] using this⟩
  exact ⟨_, h⟩

def kl (P : Program) (x : List UInt8) : Lit := (keyOf P 29 (.agg (x.map B).toArray)).getD (.bool false)

theorem kl_key {x : List UInt8} (hx : x.length = 8) : keyOf Tryz.prog 29 (.agg (x.map B).toArray) = some (kl Tryz.prog x) := by
  obtain ⟨l, h⟩ := key_there hx
  rw [kl, h]; rfl

theorem B_inj {a b : UInt8} (h : B a = B b) : a = b := by
  simp only [B, Value.int.injEq, true_and] at h
  exact UInt8.toNat_inj.1 (by exact_mod_cast h)

theorem idV_inj {x y : List UInt8} (h : (Value.agg (x.map B).toArray) = .agg (y.map B).toArray) : x = y := by
  have h := congrArg Array.toList (Value.agg.inj h)
  have h : x.map B = y.map B := h
  exact (List.map_inj_right fun _ _ => B_inj).1 h

theorem kl_inj {x y : List UInt8} (hx : x.length = 8) (hy : y.length = 8) (h : kl Tryz.prog x = kl Tryz.prog y) : x = y := by
  have h1 := kl_key hx
  have h2 := kl_key hy
  rw [h] at h1
  exact idV_inj (id_keyed.inj h1 h2)

/-- an element as it is -/
def heldE (v : Value) : Option (DataW Value × List MemPlace) := some (.held v, [])

theorem heldE_inv {v z : Value} {ps : List MemPlace} (h : heldE v = some (.held z, ps)) : v = z := by
  simp only [heldE, Option.some.injEq, Prod.mk.injEq, DataW.held.injEq] at h
  exact h.1

/-- block b is a map of at most n entries: these keys and what stands at them -/
def Mp (w : World) (b n : Nat) (l : List (List UInt8 × Value)) : Prop :=
  ∃ D, w.ownsMap Tryz.prog 29 heldE b n D ∧ (∀ x, x.length = 8 → x ∉ l.map (·.1) → Maps.has D (kl Tryz.prog x) = false) ∧ ∀ p ∈ l, p.1.length = 8 ∧ Maps.has D (kl Tryz.prog p.1) = true ∧ ∀ z, D.atKey (kl Tryz.prog p.1) z = .held p.2

theorem Mp.new (w : World) : Mp (w.alloc (.map #[] 0)) w.heap.size 0 [] :=
  ⟨_, World.ownsMap_made w Tryz.prog 29 heldE, fun _ _ _ => rfl, fun p hp => by simp at hp⟩

theorem Mp.lt {w : World} {b n : Nat} {l : List (List UInt8 × Value)} (h : Mp w b n l) : b < w.heap.size := by
  obtain ⟨D, h, _⟩ := h
  exact h.lt

theorem Mp.kept {p : Nat → Prop} {w w' : World} {b n : Nat} {l : List (List UInt8 × Value)} (h : Mp w b n l) (hk : Kept p w w') (hp : p b) : Mp w' b n l := by
  obtain ⟨D, h, h2⟩ := h
  have hlt := h.lt
  obtain ⟨es, clock, hb, F, hs, hD⟩ := h
  exact ⟨D, ⟨es, clock, (hk.block b hlt hp).trans hb, F, hs, hD⟩, h2⟩

theorem Mp.below {w w' : World} {b n : Nat} {l : List (List UInt8 × Value)} (h : Mp w b n l) (hb : Below w.heap.size w w') : Mp w' b n l := h.kept (Kept.of_below (p := fun _ => True) hb) trivial

theorem Mp.miss {w : World} {b n : Nat} {l : List (List UInt8 × Value)} (h : Mp w b n l) {t e : TypeId} (ht : Tryz.prog.underlying t = some (.map 29 e)) {z : Value} (hz : (zeroValue e).run Tryz.prog w = .ok z w) {x : List UInt8} (hx : x.length = 8) (hn : x ∉ l.map (·.1)) :
    (Instr.lookup t (.map (some b)) (.agg (x.map B).toArray) true).run Tryz.prog w = .ok (.tuple #[z, .bool false]) w := by
  obtain ⟨D, h, h1, h2⟩ := h
  obtain ⟨v, ps, hr, hv⟩ := h.look_ok id_keyed ht hz (zd := .held z) (zp := []) rfl (kl_key hx)
  rw [h1 x hx hn] at hr
  rw [Maps.atKey_of_not_has (h1 x hx hn)] at hv
  rw [hr, heldE_inv hv]

theorem Mp.hit {w : World} {b n : Nat} {l : List (List UInt8 × Value)} (h : Mp w b n l) {t e : TypeId} (ht : Tryz.prog.underlying t = some (.map 29 e)) {z : Value} (hz : (zeroValue e).run Tryz.prog w = .ok z w) {p : List UInt8 × Value} (hp : p ∈ l) :
    (Instr.lookup t (.map (some b)) (.agg (p.1.map B).toArray) true).run Tryz.prog w = .ok (.tuple #[p.2, .bool true]) w := by
  obtain ⟨D, h, h1, h2⟩ := h
  obtain ⟨hx, h3, h4⟩ := h2 p hp
  obtain ⟨v, ps, hr, hv⟩ := h.look_ok id_keyed ht hz (zd := .held z) (zp := []) rfl (kl_key hx)
  rw [h3] at hr
  rw [h4] at hv
  rw [hr, heldE_inv hv]

theorem Mp.put {w : World} {b n : Nat} {l : List (List UInt8 × Value)} (h : Mp w b n l) {t e : TypeId} (ht : Tryz.prog.underlying t = some (.map 29 e)) {x : List UInt8} (hx : x.length = 8) (hn : x ∉ l.map (·.1)) (hm : n < 1000) (v : Value) :
    ∃ w', (Instr.mapUpdate t (.map (some b)) (.agg (x.map B).toArray) v).run Tryz.prog w = .ok () w' ∧ Mp w' b (n + 1) (l ++ [(x, v)]) ∧ w.grownBy w' (some b) := by
  obtain ⟨D, h, h1, h2⟩ := h
  have hI := h.isMap
  obtain ⟨w', hr, ho, hg⟩ := h.update id_keyed ht (by unfold maxLen; omega) (d := .held v) (ps := []) (kl_key hx) rfl
  refine ⟨w', hr, ⟨_, ho, fun y hy hny => ?_, fun p hp => ?_⟩, hg⟩
  · rw [List.map_append, List.mem_append, not_or] at hny
    have hne : y ≠ x := fun e => hny.2 (by simp [e])
    rw [Maps.has_put_other (fun e => hne (kl_inj hy hx e))]
    exact h1 y hy hny.1
  · rcases List.mem_append.1 hp with hp | hp
    · obtain ⟨q1, q2, q3⟩ := h2 p hp
      have hne : p.1 ≠ x := fun e => hn (by rw [← e]; exact List.mem_map_of_mem hp)
      have hk : kl Tryz.prog p.1 ≠ kl Tryz.prog x := fun e => hne (kl_inj q1 hx e)
      exact ⟨q1, by rw [Maps.has_put_other hk]; exact q2, fun z => by rw [Maps.atKey_put_other hk]; exact q3 z⟩
    · obtain rfl : p = (x, v) := by simpa using hp
      exact ⟨hx, Maps.has_put_same hI (id_keyed.key (kl_key hx)) _, fun z => Maps.atKey_put_same hI (id_keyed.key (kl_key hx)) _ z⟩

end Go.Proofs.YtimdioacmojkeaaGreatDoor

namespace Go.Proofs.YtimdioacmojkeaaGreatDoor
open Go.RowKit Go.WideMaps
open Go.Maps (Keyed IsMap)
set_option maxRecDepth 20000

/-- set, be it there already (as it is) or not -/
theorem Mp.set {w : World} {b n : Nat} {l l' : List (List UInt8 × Value)} (h : Mp w b n l) {t e : TypeId} (ht : Tryz.prog.underlying t = some (.map 29 e)) {x : List UInt8} (hx : x.length = 8) (hm : n < 1000000000) (v : Value)
    (hl : (x ∉ l.map (·.1) ∧ l' = l ++ [(x, v)]) ∨ ((x, v) ∈ l ∧ l' = l)) :
    ∃ w', (Instr.mapUpdate t (.map (some b)) (.agg (x.map B).toArray) v).run Tryz.prog w = .ok () w' ∧ Mp w' b (n + 1) l' ∧ w.grownBy w' (some b) := by
  obtain ⟨D, h, h1, h2⟩ := h
  have hI := h.isMap
  obtain ⟨w', hr, ho, hg⟩ := h.update id_keyed ht (by unfold maxLen; omega) (d := .held v) (ps := []) (kl_key hx) rfl
  refine ⟨w', hr, ⟨_, ho, fun y hy hny => ?_, fun p hp => ?_⟩, hg⟩
  · have hne : y ≠ x := by
      rintro rfl
      rcases hl with ⟨_, rfl⟩ | ⟨hm, rfl⟩
      · exact hny (by simp)
      · exact hny (List.mem_map_of_mem hm)
    rw [Maps.has_put_other (fun e => hne (kl_inj hy hx e))]
    refine h1 y hy ?_
    rcases hl with ⟨_, rfl⟩ | ⟨hm, rfl⟩
    · intro hm
      exact hny (by rw [List.map_append]; exact List.mem_append_left _ hm)
    · exact hny
  · by_cases e : p.1 = x
    · have hpv : p.2 = v := by
        rcases hl with ⟨hn, rfl⟩ | ⟨hm, rfl⟩
        · rcases List.mem_append.1 hp with hp | hp
          · exact absurd (by rw [← e]; exact List.mem_map_of_mem hp) hn
          · rw [List.mem_singleton.1 hp]
        · have a1 := (h2 p hp).2.2 (.held v)
          have a2 := (h2 _ hm).2.2 (.held v)
          rw [e] at a1
          have := a1.symm.trans a2
          exact DataW.held.inj this
      rw [e, hpv]
      exact ⟨hx, Maps.has_put_same hI (id_keyed.key (kl_key hx)) _, fun z => Maps.atKey_put_same hI (id_keyed.key (kl_key hx)) _ z⟩
    · have hp' : p ∈ l := by
        rcases hl with ⟨hn, rfl⟩ | ⟨hm, rfl⟩
        · rcases List.mem_append.1 hp with hp | hp
          · exact hp
          · exact absurd (congrArg Prod.fst (List.mem_singleton.1 hp)) e
        · exact hp
      obtain ⟨q1, q2, q3⟩ := h2 p hp'
      have hk : kl Tryz.prog p.1 ≠ kl Tryz.prog x := fun f => e (kl_inj q1 hx f)
      exact ⟨q1, by rw [Maps.has_put_other hk]; exact q2, fun z => by rw [Maps.atKey_put_other hk]; exact q3 z⟩

theorem Mp.obj {w W : World} {b n : Nat} {l : List (List UInt8 × Value)} (h : Mp w b n l) (ho : ∀ es c, w.heap[b]? = some (.map es c) → W.heap[b]? = some (.map es c)) : Mp W b n l := by
  obtain ⟨D, h, h2⟩ := h
  obtain ⟨es, clock, hb, F, hs, hD⟩ := h
  exact ⟨D, ⟨es, clock, ho es clock hb, F, hs, hD⟩, h2⟩

theorem Mp.isMap {w : World} {b n : Nat} {l : List (List UInt8 × Value)} (h : Mp w b n l) : ∃ es c, w.heap[b]? = some (.map es c) := by
  obtain ⟨D, ⟨es, clock, hb, F, hs, hD⟩, h2⟩ := h
  exact ⟨es, clock, hb⟩

/-- blobs by their IDs -/
def mpB (bs : List Blb) : List (List UInt8 × Value) := bs.map fun x => (Pk.bid x.p, blV x)

theorem mpB_keys (bs : List Blb) : (mpB bs).map (·.1) = (bs.map Blb.p).map Pk.bid := by simp [mpB]

def pl (bs : List Blb) : List Pk.Bl := bs.map Blb.p

theorem pl_snoc (bs : List Blb) (b : Blb) : pl (bs ++ [b]) = pl bs ++ [b.p] := by simp [pl]

theorem mpB_snoc (bs : List Blb) (b : Blb) : mpB (bs ++ [b]) = mpB bs ++ [(Pk.bid b.p, blV b)] := by simp [mpB]

/-- what stands at an ID -/
theorem find_bid (bs : List Blb) (id : List UInt8) :
    ((pl bs).find? (fun x => Pk.bid x == id) = none ∧ id ∉ (mpB bs).map (·.1)) ∨ ∃ o ∈ bs, (pl bs).find? (fun x => Pk.bid x == id) = some o.p ∧ (id, blV o) ∈ mpB bs := by
  cases h : (pl bs).find? (fun x => Pk.bid x == id) with
  | none =>
    refine .inl ⟨rfl, fun hm => ?_⟩
    rw [mpB_keys] at hm
    obtain ⟨x, hx, e⟩ := List.mem_map.1 hm
    have := List.find?_eq_none.1 h x hx
    simp [e] at this
  | some x =>
    have hx := List.mem_of_find?_eq_some h
    have he : Pk.bid x = id := by simpa using List.find?_some h
    obtain ⟨o, ho, rfl⟩ := List.mem_map.1 hx
    refine .inr ⟨o, ho, rfl, ?_⟩
    rw [← he]
    exact List.mem_map_of_mem ho

end Go.Proofs.YtimdioacmojkeaaGreatDoor

namespace Go.Proofs.YtimdioacmojkeaaGreatDoor
open Go.RowKit
set_option maxRecDepth 4000

theorem wrap_u64_mod (n : Nat) : IntKind.u64.wrap (n : Int) = ((n % 18446744073709551616 : Nat) : Int) := by
  simp only [IntKind.wrap, IntKind.bits, IntKind.signed]
  simp

/-- a times the lowest i bits of b -/
def refPart (a b i : Nat) : Nat := a * (b % 2 ^ i) % 18446744073709551616
theorem part_succ (a b i : Nat) : refPart a b (i + 1) = (refPart a b i + (if b / 2 ^ i % 2 = 1 then a * 2 ^ i % 18446744073709551616 else 0)) % 18446744073709551616 := by
  unfold refPart
  rw [Nat.pow_succ, Nat.mod_mul, Nat.mul_add]
  split
  · rename_i h
    rw [h, Nat.mul_one, Nat.add_mod]
  · rename_i h
    have : b / 2 ^ i % 2 = 0 := by omega
    rw [this, Nat.mul_zero, Nat.mul_zero, Nat.add_zero, Nat.add_zero, Nat.mod_mod]
theorem part_all (a b : Nat) (hb : b < 18446744073709551616) : refPart a b 64 = a * b % 18446744073709551616 := by
  unfold refPart
  rw [Nat.mod_eq_of_lt (a := b) (b := 2 ^ 64) (by omega)]

theorem part_mod (a b i : Nat) : refPart a b i % 18446744073709551616 = refPart a b i := by unfold refPart; rw [Nat.mod_mod]
theorem shr_int (C k : Nat) : (C : Int) / 2 ^ k = ((C / 2 ^ k : Nat) : Int) := by simp
theorem bit_of (C k : Nat) (h : C < 18446744073709551616) : bits BinOp.and IntKind.u64 ((C : Int) / 2 ^ k) 1 = ((C / 2 ^ k % 2 : Nat) : Int) := by
  have hl := Nat.div_le_self C (2 ^ k)
  rw [shr_int]
  generalize C / 2 ^ k = q at *
  rw [and_one_u64 _ (by omega) (by omega)]
  omega
theorem sum_wrap (p A k : Nat) : IntKind.u64.wrap ((p : Int) + IntKind.u64.wrap ((A : Int) * 2 ^ k)) = (((p + A * 2 ^ k % 18446744073709551616) % 18446744073709551616 : Nat) : Int) := by
  rw [show (A : Int) * 2 ^ k = ((A * 2 ^ k : Nat) : Int) from by simp, wrap_u64_mod, ← Int.natCast_add, wrap_u64_mod]

set_option maxHeartbeats 400000 in
theorem product_any (a b : Int) (w : World) (a0 : 0 ≤ a) (a1 : a ≤ 18446744073709551615) (b0 : 0 ≤ b) (b1 : b ≤ 18446744073709551615) :
    Calls Tryz.prog 164 #[.int .u64 a, .int .u64 b] w fun e w' => e = .returned (.int .u64 (Mx.prod a.toNat b.toNat : Int)) ∧ w' = w := by
  obtain ⟨A, rfl⟩ := Int.eq_ofNat_of_zero_le a0
  obtain ⟨C, rfl⟩ := Int.eq_ofNat_of_zero_le b0
  simp only [Int.toNat_natCast]
  go_enter Tryz.func164, Tryz.ntmps164
  go_wp2
  go_loop [5, 7] (fun o i => ∃ k : Nat, k ≤ 64 ∧ i = .int .i64 k ∧ o = .int .u64 (refPart A C k)) (fun _ i => 64 - (intOf i).toNat)
  case atStart => exact ⟨0, by omega, rfl, by simp [refPart, Nat.mod_one]⟩
  case round =>
    obtain ⟨k, hk, rfl, rfl⟩ := hrel
    by_cases hlt : k < 64
    · have hp := part_succ A C k
      by_cases hb : C / 2 ^ k % 2 = 1
      · have hq : (bits BinOp.and IntKind.u64 ((C : Int) / 2 ^ k) 1 == 1) = true := by rw [bit_of C k (by omega), beq_iff_eq]; omega
        rw [if_pos hb] at hp
        have HP : Hid (refPart A C (k + 1) = (refPart A C k + A * 2 ^ k % 18446744073709551616) % 18446744073709551616) := hp
        clear hp hb
        go_wp2
        go_round
        case rel => exact ⟨k + 1, by omega, by go_num, int_eq (by rw [HP.out, sum_wrap])⟩
        case measure => simp [intOf]; omega
      · have hq : (bits BinOp.and IntKind.u64 ((C : Int) / 2 ^ k) 1 == 1) = false := by rw [bit_of C k (by omega), beq_eq_false_iff_ne]; omega
        rw [if_neg hb, Nat.add_zero] at hp
        have HP : Hid (refPart A C (k + 1) = refPart A C k % 18446744073709551616) := hp
        clear hp hb
        go_wp2
        go_round
        case rel => exact ⟨k + 1, by omega, by go_num, int_eq (by rw [HP.out, part_mod])⟩
        case measure => simp [intOf]; omega
    · go_wp2
      go_ret
      have hp : refPart A C k = Mx.prod A C := by rw [show k = 64 from by omega, part_all A C (by omega)]; rfl
      refine ⟨?_, rfl⟩
      rw [← hp]
      rfl

theorem xs_int29 (z : Nat) (h : z < 18446744073709551616) : bits .xor .u64 (z : Int) ((z : Int) / 536870912) = (Mx.xs 29 z : Int) := by
  rw [show (z : Int) / 536870912 = ((z / 536870912 : Nat) : Int) from by omega, u64_xor_nat _ _ h (by omega), Mx.xs, Nat.shiftRight_eq_div_pow]
theorem xs_int32 (z : Nat) (h : z < 18446744073709551616) : bits .xor .u64 (z : Int) ((z : Int) / 4294967296) = (Mx.xs 32 z : Int) := by
  rw [show (z : Int) / 4294967296 = ((z / 4294967296 : Nat) : Int) from by omega, u64_xor_nat _ _ h (by omega), Mx.xs, Nat.shiftRight_eq_div_pow]
theorem xor_int (a b : Nat) (ha : a < 18446744073709551616) (hb : b < 18446744073709551616) : bits .xor .u64 (a : Int) (b : Int) = ((a ^^^ b : Nat) : Int) := u64_xor_nat a b ha hb

set_option maxHeartbeats 400000 in
theorem rstep_any (x b : Int) (w : World) (x0 : 0 ≤ x) (x1 : x ≤ 18446744073709551615) (b0 : 0 ≤ b) (b1 : b ≤ 18446744073709551615) :
    Calls Tryz.prog 148 #[.int .u64 x, .int .u64 b] w fun e w' => e = .returned (.int .u64 (Mx.step x.toNat b.toNat : Int)) ∧ w' = w := by
  obtain ⟨X, rfl⟩ := Int.eq_ofNat_of_zero_le x0
  obtain ⟨C, rfl⟩ := Int.eq_ofNat_of_zero_le b0
  simp only [Int.toNat_natCast]
  have h1 := u64_xor_nat X C (by omega) (by omega)
  have l1 := Mx.xor_lt (a := X) (b := C) (by omega) (by omega)
  go_enter Tryz.func148, Tryz.ntmps148
  go_wp2_with fail
  refine (product_any _ _ _ (by omega) (by omega) (by omega) (by omega)).mono ?_
  rintro e w ⟨rfl, rfl⟩
  rw [Int.toNat_natCast, show (11400714819323198485 : Int).toNat = 11400714819323198485 from rfl]
  have l2 := Mx.prod_lt (X ^^^ C) 11400714819323198485
  have h2 := xs_int29 _ l2
  have l3 := Mx.xs_lt (k := 29) l2
  go_wp2_with fail
  refine (product_any _ _ _ (by omega) (by omega) (by omega) (by omega)).mono ?_
  rintro e w ⟨rfl, rfl⟩
  rw [Int.toNat_natCast, show (13787848793156543929 : Int).toNat = 13787848793156543929 from rfl]
  have l4 := Mx.prod_lt (Mx.xs 29 (Mx.prod (X ^^^ C) 11400714819323198485)) 13787848793156543929
  have h4 := xs_int32 _ l4
  clear h1 h2
  go_wp2_with fail
  go_ret
  exact ⟨rfl, rfl⟩
end Go.Proofs.YtimdioacmojkeaaGreatDoor

namespace Go.Proofs.YtimdioacmojkeaaGreatDoor
open Go.RowKit
set_option maxRecDepth 4000

theorem mul_wrap (a b : Nat) : IntKind.u64.wrap ((a : Int) * (b : Int)) = (Mx.prod a b : Nat) := by
  rw [← Int.natCast_mul, wrap_u64_mod]; rfl
theorem mul_a (a : Nat) : IntKind.u64.wrap ((a : Int) * 11400714819323198485) = (Mx.prod a 11400714819323198485 : Nat) := mul_wrap a 11400714819323198485
theorem mul_b (a : Nat) : IntKind.u64.wrap ((a : Int) * 13787848793156543929) = (Mx.prod a 13787848793156543929 : Nat) := mul_wrap a 13787848793156543929
theorem mul_ia (a : Nat) : IntKind.u64.wrap ((a : Int) * 17428512612931826493) = (Mx.prod a 17428512612931826493 : Nat) := mul_wrap a 17428512612931826493
theorem mul_ib (a : Nat) : IntKind.u64.wrap ((a : Int) * 10871156337175269513) = (Mx.prod a 10871156337175269513 : Nat) := mul_wrap a 10871156337175269513

theorem shr29_int (z : Nat) : (z : Int) / (536870912 : Int) = ((z >>> 29 : Nat) : Int) := by rw [Nat.shiftRight_eq_div_pow]; omega

set_option maxHeartbeats 400000 in
theorem step_any (x b : Nat) (w : World) (hx : x < 18446744073709551616) (hb : b < 18446744073709551616) :
    Calls Tryz.prog 111 #[.int .u64 x, .int .u64 b] w fun e w' => e = .returned (.int .u64 (Mx.step x b : Nat)) ∧ Below w.heap.size w w' := by
  have h1 := u64_xor_nat x b hx hb
  go_enter Tryz.func111, Tryz.ntmps111
  go_wp2
  go_ret
  refine ⟨ret_int ?_, Below.refl _ _⟩
  rw [mul_a, xs_int29 _ (Mx.prod_lt _ _), mul_b, xs_int32 _ (Mx.prod_lt _ _), Mx.step]
end Go.Proofs.YtimdioacmojkeaaGreatDoor

namespace Go.Proofs.YtimdioacmojkeaaGreatDoor
open Go.RowKit
set_option maxRecDepth 4000

/-- 'string([]byte{b})' -/
theorem run_str1 (W : World) (a : Addr) (b : Int) (h : W.cell? a = some (.int .u8 b)) (h0 : 0 ≤ b) (h1 : b ≤ 255) (ha : a.spot = none) :
    (convert 84 9 (.slice (some a) 1 1)).run Tryz.prog W = .ok (.string ⟨#[UInt8.ofNat b.toNat]⟩) W := by
  refine run_convert_bytes_back W 84 9 5 a 1 [UInt8.ofNat b.toNat] (by kernel_rfl) (by kernel_rfl) (by kernel_rfl) ?_
  intro j hj
  have hj0 : j = 0 := by simpa using hj
  subst hj0
  obtain ⟨x, y, z⟩ := a
  simp only at ha
  subst ha
  simp [Addr.add, h]
  omega

theorem str_new (b : Int) (h0 : 0 ≤ b) (h1 : b ≤ 255) (W : World) :
    (convert 84 9 (.slice (some ⟨W.heap.size, 0, none⟩) 1 1)).run Tryz.prog (W.alloc (.cells #[.int .u8 b] 5)) = .ok (.string ⟨#[UInt8.ofNat b.toNat]⟩) (W.alloc (.cells #[.int .u8 b] 5)) :=
  run_str1 _ _ b (by simp) h0 h1 rfl
theorem str_new_drew (b : Int) (h0 : 0 ≤ b) (h1 : b ≤ 255) (W : World) :
    (convert 84 9 (.slice (some ⟨W.heap.size, 0, none⟩) 1 1)).run Tryz.prog (W.alloc (.cells #[.int .u8 b] 5)).drew = .ok (.string ⟨#[UInt8.ofNat b.toNat]⟩) (W.alloc (.cells #[.int .u8 b] 5)).drew :=
  run_str1 _ _ b (by simp) h0 h1 rfl
theorem str_kept (w : World) (b : Int) (h0 : 0 ≤ b) (h1 : b ≤ 255) {w' : World} (hb : Below (w.alloc (.cells #[.int .u8 b] 5)).drew.heap.size (w.alloc (.cells #[.int .u8 b] 5)).drew w') :
    (convert 84 9 (.slice (some ⟨w.heap.size, 0, none⟩) 1 1)).run Tryz.prog w' = .ok (.string ⟨#[UInt8.ofNat b.toNat]⟩) w' :=
  run_str1 _ _ b (by rw [hb.cell (by simp)]; simp) h0 h1 rfl

set_option maxHeartbeats 400000 in
theorem digits_any (k : Nat) : ∀ (n : Int) (w : World), 0 ≤ n → n.toNat < 256 ^ k → k ≤ 8 →
    Calls Tryz.prog 98 #[.int .u64 n] w fun e w' => e = .returned (.string ⟨(Nm.digF k n.toNat).toArray⟩) ∧ Below w.heap.size w w' := by
  induction k with
  | zero =>
    intro n w h0 h1 _
    have hn : n = 0 := by simp at h1; omega
    subst hn
    go_enter Tryz.func98, Tryz.ntmps98
    go_wp2_with fail
    go_ret
    exact ⟨rfl, Below.refl _ _⟩
  | succ k ih =>
    intro n w h0 h1 h8
    by_cases hn : n = 0
    · subst hn
      go_enter Tryz.func98, Tryz.ntmps98
      go_wp2_with fail
      go_ret
      exact ⟨rfl, Below.refl _ _⟩
    · have h64 : n ≤ 18446744073709551615 := by
        have : 256 ^ (k + 1) ≤ 256 ^ 8 := Nat.pow_le_pow_right (by omega) h8
        omega
      have hd : Hid (Nm.digF (k + 1) n.toNat = Nm.digF k (n / 256).toNat ++ [UInt8.ofNat (n % 256).toNat]) := by
        show _ = _
        rw [Nm.digF, if_neg (by omega), show (n / 256).toNat = n.toNat / 256 from by omega, show (n % 256).toNat = n.toNat % 256 from by omega]
      have hlt : (n / 256).toNat < 256 ^ k := by rw [Nat.pow_succ] at h1; omega
      have hq : (n == 0) = false := by simpa using hn
      have H1 : Hid ((n / 256).toNat < 256 ^ k) := hlt
      clear h1 hlt hn
      have hw1 : IntKind.u64.wrap (n.tdiv 256) = n / 256 := by rw [Int.tdiv_eq_ediv_of_nonneg h0]; exact wrap_u64 _ (by omega) (by omega)
      have hw2 : n.tmod 256 = n % 256 := Int.tmod_eq_emod_of_nonneg h0
      have hw3 : IntKind.u8.wrap (n % 256) = n % 256 := by simp only [IntKind.wrap, IntKind.bits, IntKind.signed]; simp
      have m0 : 0 ≤ n % 256 := by omega
      have m1 : n % 256 ≤ 255 := by omega
      have hr1 := str_new (n % 256) m0 m1
      have hr2 := str_new_drew (n % 256) m0 m1
      have hcat : ∀ W : World, (Op.stringOp .add ⟨(Nm.digF k (n / 256).toNat).toArray⟩ ⟨#[UInt8.ofNat (n % 256).toNat]⟩).run Tryz.prog W = .ok (.string ⟨(Nm.digF k (n / 256).toNat ++ [UInt8.ofNat (n % 256).toNat]).toArray⟩) W := fun W =>
        run_string_add_lists W _ [UInt8.ofNat (n % 256).toNat] (by have := Nm.digF_length_le k (n / 256).toNat; omega) (by simp)
      go_enter Tryz.func98, Tryz.ntmps98
      go_wp2_with fail
      go_region_with (go_at_call 98; refine (ih (n / 256) _ (by omega) H1.out (by omega)).mono ?_; rintro e w' ⟨rfl, hb⟩; try (have hr3 := str_kept w (n % 256) m0 m1 hb))
      all_goals
        clear hr1 hr2 hcat
        go_wp2_with fail
        go_ret
        refine ⟨by rw [hd.out]; rfl, ?_⟩
        first
          | (have h := hb.size; exact ((Below.refl _ _).drew.trans hb).alloc (by simpa using h) _)
          | exact (((Below.refl _ _).alloc (Nat.le_refl _) _).drew).trans (hb.mono (by simp))
end Go.Proofs.YtimdioacmojkeaaGreatDoor

namespace Go.Proofs
open Go.Shelf
def Tryz.lays105_ren : Go.Shelf.Ren := ⟨fun | 105 => 146 | 212 => 162 | 99 => 76 | 165 => 149 | 166 => 150 | 170 => 163 | 169 => 152 | 263 => 171 | 264 => 172 | 206 => 101 | 240 => 165 | 241 => 166 | 276 => 173 | 277 => 174 | n => n, fun | 9 => 9 | 3 => 3 | 4 => 4 | 20 => 20 | 0 => 0 | 46 => 111 | 109 => 200 | 5 => 5 | 72 => 181 | 76 => 185 | 51 => 136 | 146 => 137 | 53 => 109 | 148 => 204 | 70 => 179 | 37 => 84 | 75 => 184 | 127 => 163 | 164 => 206 | 80 => 151 | n => n, fun | n => n⟩
theorem Tryz.lays105 : Go.Proofs.Lays.n105 Tryz.prog Tryz.lays105_ren := {
  mixed := by kernel_rfl
  f99 := Tryz.func76.trans (congrArg some (by kernel_rfl))
  f105 := Tryz.func146.trans (congrArg some (by kernel_rfl))
  f165 := Tryz.func149.trans (congrArg some (by kernel_rfl))
  f166 := Tryz.func150.trans (congrArg some (by kernel_rfl))
  f169 := Tryz.func152.trans (congrArg some (by kernel_rfl))
  f170 := Tryz.func163.trans (congrArg some (by kernel_rfl))
  f206 := Tryz.func101.trans (congrArg some (by kernel_rfl))
  f212 := Tryz.func162.trans (congrArg some (by kernel_rfl))
  f240 := Tryz.func165.trans (congrArg some (by kernel_rfl))
  f241 := Tryz.func166.trans (congrArg some (by kernel_rfl))
  f263 := Tryz.func171.trans (congrArg some (by kernel_rfl))
  f264 := Tryz.func172.trans (congrArg some (by kernel_rfl))
  f276 := Tryz.func173.trans (congrArg some (by kernel_rfl))
  f277 := Tryz.func174.trans (congrArg some (by kernel_rfl))
  t0 := Tryz.underlying0
  a0 := Tryz.isAgg0
  z0 := Tryz.sizeOf0
  v0 := Tryz.zeroValue0
  t3 := Tryz.underlying3
  a3 := Tryz.isAgg3
  z3 := Tryz.sizeOf3
  v3 := Tryz.zeroValue3
  t4 := Tryz.underlying4
  a4 := Tryz.isAgg4
  z4 := Tryz.sizeOf4
  v4 := Tryz.zeroValue4
  t5 := Tryz.underlying5
  a5 := Tryz.isAgg5
  z5 := Tryz.sizeOf5
  v5 := Tryz.zeroValue5
  t9 := Tryz.underlying9
  a9 := Tryz.isAgg9
  z9 := Tryz.sizeOf9
  v9 := Tryz.zeroValue9
  t20 := Tryz.underlying20
  a20 := Tryz.isAgg20
  z20 := Tryz.sizeOf20
  v20 := Tryz.zeroValue20
  t37 := Tryz.underlying84
  a37 := Tryz.isAgg84
  z37 := Tryz.sizeOf84
  v37 := Tryz.zeroValue84
  t46 := Tryz.underlying111
  a46 := Tryz.isAgg111
  z46 := Tryz.sizeOf111
  v46 := Tryz.zeroValue111
  t51 := Tryz.underlying136
  a51 := Tryz.isAgg136
  z51 := Tryz.sizeOf136
  v51 := Tryz.zeroValue136
  t53 := Tryz.underlying109
  a53 := Tryz.isAgg109
  z53 := Tryz.sizeOf109
  v53 := Tryz.zeroValue109
  t70 := Tryz.underlying179
  a70 := Tryz.isAgg179
  z70 := Tryz.sizeOf179
  v70 := Tryz.zeroValue179
  t72 := Tryz.underlying181
  a72 := Tryz.isAgg181
  z72 := Tryz.sizeOf181
  v72 := Tryz.zeroValue181
  t75 := Tryz.underlying184
  a75 := Tryz.isAgg184
  z75 := Tryz.sizeOf184
  v75 := Tryz.zeroValue184
  t76 := Tryz.underlying185
  a76 := Tryz.isAgg185
  z76 := Tryz.sizeOf185
  v76 := Tryz.zeroValue185
  t109 := Tryz.underlying200
  a109 := Tryz.isAgg200
  z109 := Tryz.sizeOf200
  v109 := Tryz.zeroValue200
  t127 := Tryz.underlying163
  a127 := Tryz.isAgg163
  z127 := Tryz.sizeOf163
  v127 := Tryz.zeroValue163
  t146 := Tryz.underlying137
  a146 := Tryz.isAgg137
  z146 := Tryz.sizeOf137
  v146 := Tryz.zeroValue137
  t148 := Tryz.underlying204
  a148 := Tryz.isAgg204
  z148 := Tryz.sizeOf204
  v148 := Tryz.zeroValue204
  t164 := Tryz.underlying206
  a164 := Tryz.isAgg206
  z164 := Tryz.sizeOf206
  v164 := Tryz.zeroValue206 }
theorem Tryz.Builder_Extra_105 : Builder.Extra Tryz.prog Tryz.lays105_ren := {
  sizeBuilder := by kernel_rfl
  liesBuilder := by kernel_rfl
  t5 := Tryz.underlying5
  a5 := Tryz.isAgg5
  z5 := Tryz.sizeOf5
  v5 := Tryz.zeroValue5
  infoByte := by kernel_rfl
  cellsByte := by kernel_rfl
  sizeByte := by kernel_rfl
  neB5 := by decide }
open Go.RowKit Go.Lib in
theorem Tryz.strings_Repeat (s : ByteArray) (c : Nat) (w : World) (hc : c ≤ 9223372036854775807) (hlen : s.size * c ≤ 140737488355328) :
    Calls Tryz.prog 146 #[.string s, .int .i64 c] w fun e w' => e = .returned (.string ⟨(Lib.repeatL s.data.toList c).toArray⟩) ∧ Below w.heap.size w w' := Any.strings_Repeat Tryz.lays105 Tryz.Builder_Extra_105 s c w hc hlen
end Go.Proofs

namespace Go.Proofs.YtimdioacmojkeaaGreatDoor
open Go.RowKit
set_option maxRecDepth 4000

theorem repeat_nought (c : Nat) : Lib.repeatL [0] c = List.replicate c 0 := by
  induction c with
  | zero => rfl
  | succ c ih => rw [Lib.repeatL, ih, List.replicate_succ]; rfl

set_option maxHeartbeats 400000 in
theorem wide_any (n : Int) (w : World) (n0 : 0 ≤ n) (n1 : n ≤ 18446744073709551615) :
    Calls Tryz.prog 128 #[.int .u64 n] w fun e w' => e = .returned (.string ⟨(Nm.low 8 n.toNat).toArray⟩) ∧ Below w.heap.size w w' := by
  have hl := Nm.dig_length_le n.toNat
  obtain ⟨c, hc⟩ : ∃ c, c = 8 - (Nm.dig n.toNat).length := ⟨_, rfl⟩
  have hcI : 8 - ((Nm.dig n.toNat).length : Int) = (c : Int) := by omega
  obtain ⟨z, hz⟩ : ∃ z : List UInt8, z = List.replicate c 0 := ⟨_, rfl⟩
  have hcat : ∀ W : World, (Op.stringOp .add ⟨z.toArray⟩ ⟨(Nm.dig n.toNat).toArray⟩).run Tryz.prog W = .ok (.string ⟨(Nm.low 8 n.toNat).toArray⟩) W := fun W => by
    have := run_string_add_lists (P := Tryz.prog) W z (Nm.dig n.toNat) (by rw [hz]; simp; omega) (by omega)
    rw [show z ++ Nm.dig n.toNat = Nm.low 8 n.toNat from by rw [hz, hc]; exact Nm.low_pad n.toNat (by omega)] at this
    exact this
  have HZ : Hid (Lib.repeatL ({ data := #[0] } : ByteArray).data.toList c = z) := by show _ = z; rw [hz]; exact repeat_nought c
  clear hz
  have HC : Hid (c = 8 - (Nm.dig n.toNat).length) := hc
  have hc8 : c ≤ 8 := by omega
  clear hc
  go_enter Tryz.func128, Tryz.ntmps128
  go_wp2_with fail
  refine (digits_any 8 n _ n0 (by omega) (by omega)).mono ?_
  rintro e w1 ⟨rfl, hb⟩
  rw [show Nm.digF 8 n.toNat = Nm.dig n.toNat from rfl]
  go_wp2_with fail
  refine (Tryz.strings_Repeat _ c _ (by omega) (by simp [ByteArray.size]; omega)).mono ?_
  rintro e w2 ⟨rfl, hb2⟩
  rw [HZ.out]
  go_wp2_with fail
  go_ret
  exact ⟨rfl, hb.trans (hb2.mono hb.size)⟩

theorem wide_nat (N : Nat) (w : World) (h : N < 18446744073709551616) :
    Calls Tryz.prog 128 #[.int .u64 N] w fun e w' => e = .returned (.string ⟨(Nm.low 8 N).toArray⟩) ∧ Below w.heap.size w w' := by
  have := wide_any N w (by omega) (by omega)
  rwa [Int.toNat_natCast] at this
end Go.Proofs.YtimdioacmojkeaaGreatDoor

namespace Go.Proofs.YtimdioacmojkeaaGreatDoor
open Go.RowKit
set_option maxRecDepth 4000

theorem pow_lt_64 {w : Nat} (h : w < 64) : 2 ^ w < 18446744073709551616 :=
  Nat.lt_of_lt_of_le (Nat.pow_lt_pow_right (a := 2) (by omega) h) (by decide)

set_option maxHeartbeats 400000 in
/-- the closure that keeps the lowest bits -/
theorem cut_any (y : Nat) (W : Nat) (p : Addr) (w : World) (hp : w.cell? p = some (.int .i64 W)) (hW : W ≤ 64) (hy : y < 18446744073709551616) (ha : p.spot = none) :
    Calls Tryz.prog 147 #[.int .u64 y, .pointer (some p)] w fun e w' => e = .returned (.int .u64 (Mx.cut W y)) ∧ w' = w := by
  obtain ⟨b, o, q⟩ := p
  simp only at ha
  subst ha
  by_cases h64 : W = 64
  · have hq : ((W : Int) == 64) = true := by rw [beq_iff_eq]; omega
    have HC : Hid (y = Mx.cut W y) := by show _ = _; rw [h64, Mx.cut_64 hy]
    clear h64
    go_enter Tryz.func147, Tryz.ntmps147
    go_wp2
    go_ret
    exact ⟨ret_int (by rw [← HC.out]), rfl⟩
  · have hq : ((W : Int) == 64) = false := by rw [beq_eq_false_iff_ne]; omega
    have hpow := pow_lt_64 (w := W) (by omega)
    have hpos := Nat.two_pow_pos W
    have hw : IntKind.u64.wrap (2 ^ W) = ((2 ^ W : Nat) : Int) := by
      rw [show (2 : Int) ^ W = ((2 ^ W : Nat) : Int) from by simp, wrap_u64_mod, Nat.mod_eq_of_lt hpow]
    have hn : ¬ (IntKind.u64.wrap (2 ^ W) = 0) := by rw [hw]; omega
    have HC : Hid ((y : Int) % IntKind.u64.wrap (2 ^ W) = (Mx.cut W y : Nat)) := by
      show _ = _
      rw [hw, Mx.cut, Int.natCast_emod]
    clear h64 hpow hpos hw
    go_enter Tryz.func147, Tryz.ntmps147
    go_wp2
    go_ret
    exact ⟨ret_int HC.out, rfl⟩

theorem hi_wrap (l : List UInt8) (i d b : Nat) (hd : d < 8) (hb : b = Mx.byteAt l (8 * i + (7 - d))) :
    IntKind.u64.wrap (IntKind.u64.wrap (256 * (Mx.hi l i d : Int)) + IntKind.u64.wrap (b : Int)) = (Mx.hi l i (d + 1) : Nat) := by
  have h1 := Mx.hi_lt l i (d + 1)
  have h2 : 256 ^ (d + 1) ≤ 256 ^ 8 := Nat.pow_le_pow_right (by omega) (by omega)
  rw [Mx.hi] at *
  rw [← hb] at *
  have h3 : (256 : Nat) ^ 8 = 18446744073709551616 := by decide
  rw [wrap_u64 (256 * (Mx.hi l i d : Int)) (by omega) (by omega), wrap_u64 (b : Int) (by omega) (by omega), wrap_u64 _ (by omega) (by omega)]
  omega

def textSize : Value → Nat | .string t => t.size | _ => 0

set_option maxHeartbeats 400000 in
theorem rnarrow_any (W : Nat) (s : ByteArray) (w : World) (hW : W ≤ 64) (hs : s.size ≤ 140737488351232) :
    Calls Tryz.prog 129 #[.int .i64 W, .string s] w fun e w' => e = .returned (.int .u64 (Mx.narrow W s.data.toList)) ∧ Below w.heap.size w w' := by
  obtain ⟨c, hc⟩ : ∃ c, c = (8 - s.size % 8) % 8 := ⟨_, rfl⟩
  have hc1 : -((s.size : Int) % 8) % 8 = (c : Int) := by omega
  have hc2 : (8 - (s.size : Int) % 8) % 8 = (c : Int) := by omega
  obtain ⟨z, hz⟩ : ∃ z : List UInt8, z = List.replicate c 0 := ⟨_, rfl⟩
  obtain ⟨f, hf⟩ : ∃ f : ByteArray, f = ⟨(s.data.toList ++ z).toArray⟩ := ⟨_, rfl⟩
  have hzl : z.length = c := by rw [hz]; simp
  have hcat : ∀ V : World, (Op.stringOp .add s ⟨z.toArray⟩).run Tryz.prog V = .ok (.string f) V := fun V => by
    rw [hf]
    have := run_string_add_sum (P := Tryz.prog) (w := V) s ⟨z.toArray⟩ (by show s.size + z.toArray.size ≤ _; rw [List.size_toArray]; omega)
    rw [this, show s ++ (⟨z.toArray⟩ : ByteArray) = ⟨(s.data.toList ++ z).toArray⟩ from ByteArray.ext (by rw [ByteArray.data_append]; simp)]
  have hfl : f.data.toList = s.data.toList ++ z := by rw [hf]
  have hfs : f.size = s.size + c := by rw [Lib.size_eq, hfl, List.length_append, ← Lib.size_eq, hzl]
  have HZ : Hid (Lib.repeatL ({ data := #[0] } : ByteArray).data.toList c = z) := by show _ = z; rw [hz]; exact repeat_nought c
  have HB : Hid (∀ k, Mx.byteAt f.data.toList k = Mx.byteAt s.data.toList k) := fun k => by rw [hfl, hz, Mx.byteAt_pad]
  obtain ⟨n, hn⟩ : ∃ n, n = (s.size + 7) / 8 := ⟨_, rfl⟩
  have hfn : f.size = 8 * n := by omega
  have HN : Hid (Mx.narrow W s.data.toList = Mx.cut W (Mx.step (Mx.chain W s.data.toList n) s.size)) := by show _ = _; rw [Mx.narrow, hn, ← Lib.size_eq]
  have hc8 : c ≤ 7 := by omega
  clear hz hf hfl hn hzl hc
  go_enter Tryz.func129, Tryz.ntmps129
  go_wp2_with fail
  refine (Tryz.strings_Repeat _ c _ (by omega) (by simp [ByteArray.size]; omega)).mono ?_
  rintro e w2 ⟨rfl, hb2⟩
  rw [HZ.out]
  have hcell : w2.cell? ⟨w.heap.size, 0, none⟩ = some (.int .i64 W) := (hb2.cell (p := ⟨w.heap.size, 0, none⟩) (by simp)).trans (by simp)
  have HBel : Hid (Below w.heap.size w w2) := ((Below.refl _ w).alloc (Nat.le_refl _) _).trans (hb2.mono (by simp))
  clear hb2
  go_wp2_with fail
  clear HZ
  go_loop [5, 7] (fun x g => ∃ i : Nat, ∃ t : ByteArray, i ≤ n ∧ x = .int .u64 (Mx.chain W s.data.toList i) ∧ g = .string t ∧ t.data.toList = f.data.toList.drop (8 * i) ∧ t.size = 8 * (n - i)) (fun _ g => textSize g)
  case atStart => exact ⟨0, f, by omega, rfl, rfl, by simp, by omega⟩
  case round =>
    obtain ⟨i, t, hi, rfl, rfl, htl, hts⟩ := hrel
    have hlen : t.data.toList.length = 8 * (n - i) := by rw [← Lib.size_eq]; exact hts
    have hX := Mx.chain_lt W s.data.toList i
    by_cases hlt : i < n
    · have hq : t.toList.isEmpty = false := by
        rw [Lib.toList_data, List.isEmpty_eq_false_iff]; intro e; rw [e] at hlen; simp only [List.length_nil] at hlen; omega
      have HA : Hid (∀ k (h : k < t.size), t[k].toNat = Mx.byteAt s.data.toList (8 * i + k)) := fun k h => by
        rw [← HB.out, ← Mx.byteAt_drop, ← htl, Mx.byteAt, List.getD_eq_getElem?_getD, List.getElem?_eq_getElem (by omega)]
        rfl
      clear hlen
      go_wp2_with fail
      go_loop [8, 9] (fun b j => ∃ c : Nat, c ≤ 8 ∧ j = .int .i64 (7 - (c : Int)) ∧ b = .int .u64 (Mx.hi s.data.toList i c)) (fun _ j => (intOf j + 1).toNat)
      case atStart => exact ⟨0, by omega, rfl, rfl⟩
      case round =>
        obtain ⟨d, hd, rfl, rfl⟩ := hrel
        have hh := Mx.hi_lt s.data.toList i d
        by_cases hd8 : d < 8
        · clear hh hc1 hc2
          go_wp2_with fail
          go_round
          case rel => exact ⟨d + 1, by omega, by go_num, int_eq (hi_wrap _ _ _ _ hd8 (HA.out (7 - d) (by omega)))⟩
          case measure => simp only [intOf]; omega
        · obtain rfl : d = 8 := by omega
          clear hc1 hc2 hd hd8
          go_wp2_with fail
          refine (rstep_any _ _ _ (by omega) (by omega) (by omega) (by omega)).mono ?_
          rintro e w3 ⟨rfl, rfl⟩
          rw [Int.toNat_natCast, Int.toNat_natCast]
          go_wp2_with fail
          refine (cut_any _ W _ _ hcell hW (Mx.step_lt _ _) rfl).mono ?_
          rintro e w3 ⟨rfl, rfl⟩
          go_wp2_with fail
          go_round
          case rel =>
            refine ⟨i + 1, _, by omega, rfl, rfl, ?_, ?_⟩
            · rw [Lib.extract_data, htl, List.drop_drop, List.take_of_length_le (by rw [List.length_drop, ← Lib.size_eq]; omega)]
              rfl
            · rw [ByteArray.size_extract]; omega
          case measure => simp only [textSize, ByteArray.size_extract]; omega
    · have hq : t.toList.isEmpty = true := by
        rw [Lib.toList_data, List.isEmpty_iff_length_eq_zero]; omega
      clear hlen
      go_wp2_with fail
      refine (rstep_any _ _ _ (by omega) (by omega) (by omega) (by omega)).mono ?_
      rintro e w3 ⟨rfl, rfl⟩
      rw [Int.toNat_natCast, Int.toNat_natCast]
      go_wp2_with fail
      refine (cut_any _ W _ _ hcell hW (Mx.step_lt _ _) rfl).mono ?_
      rintro e w3 ⟨rfl, rfl⟩
      go_wp2_with fail
      go_ret
      refine ⟨?_, HBel.out⟩
      rw [HN.out, show n = i from by omega]
      rfl
end Go.Proofs.YtimdioacmojkeaaGreatDoor

namespace Go.Proofs.YtimdioacmojkeaaGreatDoor
open Go.RowKit
set_option maxRecDepth 4000

theorem or_hi (a b : Nat) (hb : b < 256) : 256 * a ||| b = 256 * a + b := by
  have h := Nat.two_pow_add_eq_or_of_lt (i := 8) (b := b) (by simpa using hb) a
  simpa using h.symm
theorem hi_or (l : List UInt8) (i c b : Nat) (hc : c < 8) (hb : b = Mx.byteAt l (8 * i + (7 - c))) :
    bits .or .u64 (IntKind.u64.wrap ((Mx.hi l i c : Int) * 256)) (IntKind.u64.wrap (b : Int)) = (Mx.hi l i (c + 1) : Nat) := by
  have h1 := Mx.hi_lt l i (c + 1)
  have h2 : 256 ^ (c + 1) ≤ 256 ^ 8 := Nat.pow_le_pow_right (by omega) (by omega)
  have h3 : (256 : Nat) ^ 8 = 18446744073709551616 := by decide
  have h4 := Mx.byteAt_lt l (8 * i + (7 - c))
  rw [Mx.hi] at *
  rw [← hb] at *
  rw [show (Mx.hi l i c : Int) * 256 = ((256 * Mx.hi l i c : Nat) : Int) from by omega, wrap_u64 _ (by omega) (by omega), wrap_u64 _ (by omega) (by omega), u64_or_nat _ _ (by omega) (by omega), or_hi _ _ (by omega)]
theorem hi_past (l : List UInt8) : ∀ c, c + l.length ≤ 8 → Mx.hi l 0 c = 0
  | 0, _ => rfl
  | c + 1, h => by rw [Mx.hi, hi_past l c (by omega), Mx.byteAt_past (by omega)]
theorem mx_byte_get (t : ByteArray) (k : Nat) (h : k < t.size) : t[k].toNat = Mx.byteAt t.data.toList k := by
  rw [Mx.byteAt, List.getD_eq_getElem?_getD, List.getElem?_eq_getElem (by simpa using h)]
  rfl

set_option maxHeartbeats 400000 in
theorem mx_read_any (t : ByteArray) (w : World) (ht : t.size ≤ 8) :
    Calls Tryz.prog 112 #[.string t] w fun e w' => e = .returned (.int .u64 (Mx.blk t.data.toList 0 : Nat)) ∧ w' = w := by
  have hl : t.data.toList.length = t.size := by rw [← Lib.size_eq]
  have H0 : Hid (Mx.hi t.data.toList 0 (8 - t.size) = 0) := hi_past _ _ (by omega)
  have HB : Hid (∀ k (h : k < t.size), t[k].toNat = Mx.byteAt t.data.toList k) := mx_byte_get t
  clear hl
  go_enter Tryz.func112, Tryz.ntmps112
  go_wp2
  go_loop [3, 4] (fun b i => ∃ d : Nat, d ≤ t.size ∧ i = .int .i64 ((t.size : Int) - 1 - (d : Int)) ∧ b = .int .u64 (Mx.hi t.data.toList 0 (8 - t.size + d) : Nat)) (fun _ i => (intOf i + 1).toNat)
  case atStart => exact ⟨0, by omega, int_eq (by omega), by rw [Nat.add_zero, H0.out]; rfl⟩
  case round =>
    obtain ⟨d, hd, rfl, rfl⟩ := hrel
    by_cases hlt : d < t.size
    · obtain ⟨k, hk⟩ : ∃ k, k = t.size - 1 - d := ⟨_, rfl⟩
      have hkI : (t.size : Int) - 1 - (d : Int) = (k : Int) := by omega
      have hkl : k < t.size := by omega
      have HO : Hid (bits .or .u64 (IntKind.u64.wrap ((Mx.hi t.data.toList 0 (8 - t.size + d) : Int) * 256)) (IntKind.u64.wrap (t[k].toNat : Int)) = (Mx.hi t.data.toList 0 (8 - t.size + d + 1) : Nat)) :=
        hi_or _ 0 _ _ (by omega) (by rw [HB.out k hkl, show 8 * 0 + (7 - (8 - t.size + d)) = k from by omega])
      go_wp2
      go_round
      case rel => subst hk; exact ⟨d + 1, by omega, int_eq (by omega), int_eq HO.out⟩
      case measure => simp only [intOf]; omega
    · obtain rfl : d = t.size := by omega
      go_wp2
      go_ret
      exact ⟨rfl, rfl⟩

theorem blk_of {l l' : List UInt8} {i i' : Nat} (h : ∀ j, j < 8 → Mx.byteAt l (8 * i + j) = Mx.byteAt l' (8 * i' + j)) : Mx.blk l i = Mx.blk l' i' := by
  have key : ∀ c, c ≤ 8 → Mx.hi l i c = Mx.hi l' i' c := by
    intro c
    induction c with
    | zero => intro _; rfl
    | succ c ih => intro hc; rw [Mx.hi, Mx.hi, ih (by omega), h (7 - c) (by omega)]
  exact key 8 (Nat.le_refl _)
theorem blk_extract (s : ByteArray) (i e : Nat) (he : e = min (8 * i + 8) s.size) : Mx.blk (s.extract (8 * i) e).data.toList 0 = Mx.blk s.data.toList i := by
  apply blk_of
  intro j hj
  have hl : s.data.toList.length = s.size := by rw [← Lib.size_eq]
  rw [Lib.extract_data, Nat.mul_zero, Nat.zero_add]
  unfold Mx.byteAt
  rw [List.getD_eq_getElem?_getD, List.getD_eq_getElem?_getD]
  by_cases h : 8 * i + j < s.size
  · rw [List.getElem?_take_of_lt (by omega), List.getElem?_drop]
  · rw [List.getElem?_eq_none (l := s.data.toList) (by omega), List.getElem?_eq_none (by rw [List.length_take]; omega)]
theorem kept_nat (W : Nat) (hW : W ≤ 64) : (18446744073709551615 : Int) / 2 ^ (64 - W) = ((2 ^ W - 1 : Nat) : Int) := by
  have h : (18446744073709551616 : Nat) = 2 ^ W * 2 ^ (64 - W) := by rw [← Nat.pow_add, show W + (64 - W) = 64 from by omega]
  have hp := Nat.two_pow_pos (64 - W)
  have hq := Nat.two_pow_pos W
  rw [show (2 : Int) ^ (64 - W) = ((2 ^ (64 - W) : Nat) : Int) from by simp, show (18446744073709551615 : Int) = ((18446744073709551615 : Nat) : Int) from rfl, ← Int.natCast_ediv]
  congr 1
  generalize 2 ^ (64 - W) = p at *
  generalize 2 ^ W = q at *
  apply Nat.div_eq_of_lt_le
  · rw [Nat.sub_mul, ← h, Nat.one_mul]; omega
  · rw [show q - 1 + 1 = q from by omega, ← h]; omega
theorem and_cut (W y : Nat) (hW : W ≤ 64) (hy : y < 18446744073709551616) : bits .and .u64 (y : Int) ((2 ^ W - 1 : Nat) : Int) = (Mx.cut W y : Nat) := by
  have hq : 2 ^ W ≤ 2 ^ 64 := Nat.pow_le_pow_right (by omega) hW
  have h64 : (2 : Nat) ^ 64 = 18446744073709551616 := by decide
  have hp := Nat.two_pow_pos W
  rw [u64_and_nat _ _ hy (by omega), Nat.and_two_pow_sub_one_eq_mod, Mx.cut]

set_option maxHeartbeats 1000000 in
theorem digest_any (W : Nat) (s : ByteArray) (w : World) (h1 : 1 ≤ W) (hW : W ≤ 64) (hs : s.size ≤ 140737488351232) :
    Calls Tryz.prog 85 #[.string s, .int .i64 W] w fun e w' => e = .returned (.int .u64 (Mx.narrow W s.data.toList : Nat)) ∧ Below w.heap.size w w' := by
  obtain ⟨n, hn⟩ : ∃ n, n = (s.size + 7) / 8 := ⟨_, rfl⟩
  have HN : Hid (Mx.narrow W s.data.toList = Mx.cut W (Mx.step (Mx.chain W s.data.toList n) s.size)) := by show _ = _; rw [Mx.narrow, hn, ← Lib.size_eq]
  have hk := kept_nat W hW
  have HAC : Hid (∀ y : Nat, y < 18446744073709551616 → bits .and .u64 (y : Int) ((2 ^ W - 1 : Nat) : Int) = (Mx.cut W y : Nat)) := fun y hy => and_cut W y hW hy
  generalize hK : 2 ^ W - 1 = K at *
  clear hK
  go_enter Tryz.func85, Tryz.ntmps85
  go_wp2_with fail
  go_loopw [6, 7] (fun x a wr => ∃ i : Nat, i ≤ n ∧ a = .int .i64 (8 * (i : Int)) ∧ x = .int .u64 (Mx.chain W s.data.toList i : Nat) ∧ Below w.heap.size w wr) (fun _ a _ => 8 * n - (intOf a).toNat)
  case atStart => exact ⟨0, by omega, rfl, rfl, Below.refl _ _⟩
  case round =>
    obtain ⟨i, hi, rfl, rfl, hbel⟩ := hrel
    have hX := Mx.chain_lt W s.data.toList i
    by_cases hlt : i < n
    · have hlI : 8 * (i : Int) < (s.size : Int) := by omega
      have hex : (s.extract (8 * i) (min (8 * (i : Int) + 8) (s.size : Int)).toNat).size ≤ 8 := by rw [ByteArray.size_extract]; omega
      have hbk := blk_extract s i (min (8 * (i : Int) + 8) (s.size : Int)).toNat (by omega)
      have hbl := Mx.blk_lt s.data.toList i
      have hac := HAC.out _ (Mx.step_lt (Mx.chain W s.data.toList i) (Mx.blk s.data.toList i))
      rw [← Mx.chain] at hac
      go_wp2_with fail
      refine (mx_read_any _ _ hex).mono ?_
      rintro e w1 ⟨rfl, rfl⟩
      rw [hbk]
      go_wp2_with fail
      refine (step_any _ _ _ hX hbl).mono ?_
      rintro e w2 ⟨rfl, hb2⟩
      have hB2 := hbel.trans (hb2.mono hbel.size)
      clear hb2 hbel
      go_wp2_with fail
      go_round
      case rel => exact ⟨i + 1, by omega, int_eq (by omega), rfl, hB2⟩
      case measure => simp only [intOf]; omega
    · have hac := HAC.out _ (Mx.step_lt (Mx.chain W s.data.toList i) s.size)
      rw [← show Mx.narrow W s.data.toList = Mx.cut W (Mx.step (Mx.chain W s.data.toList i) s.size) from by rw [HN.out, show n = i from by omega]] at hac
      have h8 : (s.size : Int) ≤ 8 * (i : Int) := by omega
      clear hn hlt hi
      have hsl : s.size < 18446744073709551616 := by omega
      go_wp2_with fail
      refine (step_any (Mx.chain W s.data.toList i) s.size wr hX hsl).mono ?_
      rintro e w2 ⟨rfl, hb2⟩
      have hB2 := hbel.trans (hb2.mono hbel.size)
      clear hb2 hbel
      go_wp2_with fail
      go_ret
      exact ⟨rfl, hB2⟩

set_option maxHeartbeats 400000 in
theorem sum_any (s : ByteArray) (w : World) (hs : s.size ≤ 140737488351232) :
    Calls Tryz.prog 59 #[.string s] w fun e w' => e = .returned (.int .u64 (Mx.narrow 64 s.data.toList : Nat)) ∧ Below w.heap.size w w' := by
  go_enter Tryz.func59, Tryz.ntmps59
  go_wp2_with fail
  refine (digest_any 64 s _ (by omega) (by omega) hs).mono ?_
  rintro e w2 ⟨rfl, hb2⟩
  go_wp2_with fail
  go_ret
  exact ⟨rfl, hb2⟩
end Go.Proofs.YtimdioacmojkeaaGreatDoor

namespace Go.Proofs.YtimdioacmojkeaaGreatDoor
open Go.RowKit
set_option maxRecDepth 4000

theorem eight {α : Type} (l : List α) (h : l.length = 8) : ∃ a b c d e f g k, l = [a, b, c, d, e, f, g, k] := by
  match l, h with
  | [a, b, c, d, e, f, g, k], _ => exact ⟨a, b, c, d, e, f, g, k, rfl⟩

/-- '[]byte(s)' of eight bytes -/
theorem bytes8 (b0 b1 b2 b3 b4 b5 b6 b7 : UInt8) (w : World) : ∃ cap W,
    (convert 9 84 (.string ⟨#[b0, b1, b2, b3, b4, b5, b6, b7]⟩)).run Tryz.prog w = .ok (.slice (some ⟨w.heap.size, 0, none⟩) 8 cap) W ∧
    (∀ j (h : j < 8), W.cell? ⟨w.heap.size, j, none⟩ = some (.int .u8 ([b0, b1, b2, b3, b4, b5, b6, b7][j].toNat : Int))) ∧ Below w.heap.size w W := by
  refine ⟨_, _, run_bytes_of_string (P := Tryz.prog) w 9 84 5 ⟨#[b0, b1, b2, b3, b4, b5, b6, b7]⟩ (by kernel_rfl) (by kernel_rfl) (by kernel_rfl), ?_, ?_⟩
  · intro j h
    exact bytes_cell w ⟨#[b0, b1, b2, b3, b4, b5, b6, b7]⟩ _ _ j h
  · exact (Below.refl _ w).drew.alloc (Nat.le_refl _) _

set_option maxHeartbeats 1000000 in
theorem rid_of (N : Nat) (b0 b1 b2 b3 b4 b5 b6 b7 : UInt8) (s : ByteArray) (w : World) (hN : N < 18446744073709551616) (hL : Nm.low 8 N = [b0, b1, b2, b3, b4, b5, b6, b7])
    (hn : ∀ W, Calls Tryz.prog 129 #[.int .i64 64, .string s] W fun e w' => e = .returned (.int .u64 N) ∧ Below W.heap.size W w') :
    Calls Tryz.prog 96 #[.string s] w fun e w' => e = .returned (.agg #[B b0, B b1, B b2, B b3, B b4, B b5, B b6, B b7]) ∧ Below w.heap.size w w' := by
  have hwd := fun W => wide_nat N W hN
  rw [hL] at hwd
  have hat : ∀ (W : World) (cap : Nat) (a : Option Addr), (Instr.arrayAt 29 (.slice a 8 cap)).run Tryz.prog W = .ok (.pointer a) W := fun W cap a => run_arrayAt (P := Tryz.prog) W 29 5 8 a 8 cap (by kernel_rfl) (by omega)
  go_enter Tryz.func96, Tryz.ntmps96
  go_wp2_with fail
  refine (hn _).mono ?_
  rintro e w1 ⟨rfl, hb1⟩
  go_wp2_with fail
  refine (hwd _).mono ?_
  rintro e w2 ⟨rfl, hb2⟩
  have hb12 : Below (w.heap.size + 1) _ w2 := (show Below (w.heap.size + 1) _ w1 by simpa using hb1).trans (hb2.mono (by have := hb1.size; simpa using this))
  have hsz : w.heap.size < w2.heap.size := by have h1 := hb1.size; have h2 := hb2.size; simp at h1; omega
  obtain ⟨cap, W3, hcw, hcl, hb3⟩ := bytes8 b0 b1 b2 b3 b4 b5 b6 b7 w2
  have HB : Hid (Below w.heap.size w W3) := ((Below.refl _ w).alloc (Nat.le_refl _) _).trans ((hb12.mono (by omega)).trans (hb3.mono (by omega)))
  have hb4 := hb12.trans (hb3.mono (by omega))
  have c0 := hcl 0 (by omega)
  have d0 : W3.cell? ⟨w.heap.size, 0, none⟩ = some (.int .u8 0) := (hb4.cell (p := ⟨w.heap.size, 0, none⟩) (by simp)).trans (by simp)
  have f0 : W3.frozen? ⟨w.heap.size, 0, none⟩ = false := (hb4.frozen (p := ⟨w.heap.size, 0, none⟩) (by simp)).trans (by simp)
  have c1 := hcl 1 (by omega)
  have d1 : W3.cell? ⟨w.heap.size, 1, none⟩ = some (.int .u8 0) := (hb4.cell (p := ⟨w.heap.size, 1, none⟩) (by simp)).trans (by simp)
  have f1 : W3.frozen? ⟨w.heap.size, 1, none⟩ = false := (hb4.frozen (p := ⟨w.heap.size, 1, none⟩) (by simp)).trans (by simp)
  have c2 := hcl 2 (by omega)
  have d2 : W3.cell? ⟨w.heap.size, 2, none⟩ = some (.int .u8 0) := (hb4.cell (p := ⟨w.heap.size, 2, none⟩) (by simp)).trans (by simp)
  have f2 : W3.frozen? ⟨w.heap.size, 2, none⟩ = false := (hb4.frozen (p := ⟨w.heap.size, 2, none⟩) (by simp)).trans (by simp)
  have c3 := hcl 3 (by omega)
  have d3 : W3.cell? ⟨w.heap.size, 3, none⟩ = some (.int .u8 0) := (hb4.cell (p := ⟨w.heap.size, 3, none⟩) (by simp)).trans (by simp)
  have f3 : W3.frozen? ⟨w.heap.size, 3, none⟩ = false := (hb4.frozen (p := ⟨w.heap.size, 3, none⟩) (by simp)).trans (by simp)
  have c4 := hcl 4 (by omega)
  have d4 : W3.cell? ⟨w.heap.size, 4, none⟩ = some (.int .u8 0) := (hb4.cell (p := ⟨w.heap.size, 4, none⟩) (by simp)).trans (by simp)
  have f4 : W3.frozen? ⟨w.heap.size, 4, none⟩ = false := (hb4.frozen (p := ⟨w.heap.size, 4, none⟩) (by simp)).trans (by simp)
  have c5 := hcl 5 (by omega)
  have d5 : W3.cell? ⟨w.heap.size, 5, none⟩ = some (.int .u8 0) := (hb4.cell (p := ⟨w.heap.size, 5, none⟩) (by simp)).trans (by simp)
  have f5 : W3.frozen? ⟨w.heap.size, 5, none⟩ = false := (hb4.frozen (p := ⟨w.heap.size, 5, none⟩) (by simp)).trans (by simp)
  have c6 := hcl 6 (by omega)
  have d6 : W3.cell? ⟨w.heap.size, 6, none⟩ = some (.int .u8 0) := (hb4.cell (p := ⟨w.heap.size, 6, none⟩) (by simp)).trans (by simp)
  have f6 : W3.frozen? ⟨w.heap.size, 6, none⟩ = false := (hb4.frozen (p := ⟨w.heap.size, 6, none⟩) (by simp)).trans (by simp)
  have c7 := hcl 7 (by omega)
  have d7 : W3.cell? ⟨w.heap.size, 7, none⟩ = some (.int .u8 0) := (hb4.cell (p := ⟨w.heap.size, 7, none⟩) (by simp)).trans (by simp)
  have f7 : W3.frozen? ⟨w.heap.size, 7, none⟩ = false := (hb4.frozen (p := ⟨w.heap.size, 7, none⟩) (by simp)).trans (by simp)
  simp only [List.getElem_cons_zero, List.getElem_cons_succ] at c0 c1 c2 c3 c4 c5 c6 c7
  clear hcl hb4 hb3 hb12 hb2 hb1 hn hwd hL
  go_wp2_with fail
  refine bodyPost_ret (v := .agg #[B b0, B b1, B b2, B b3, B b4, B b5, B b6, B b7]) ?_ rfl ⟨rfl, ?_⟩
  · have hres : Tryz.f96.results = #[.cell 2 29] := by kernel_rfl
    simp only [results, hres]
    go_simp
    exact ⟨rfl, rfl, rfl, rfl, rfl, rfl, rfl, rfl⟩
  · have hk : w.heap.size ≤ w.heap.size := Nat.le_refl _
    exact (((((((HB.out.setCell hk _).setCell hk _).setCell hk _).setCell hk _).setCell hk _).setCell hk _).setCell hk _).setCell hk _

theorem rid_any (s : ByteArray) (w : World) (hs : s.size ≤ 140737488351232) :
    Calls Tryz.prog 96 #[.string s] w fun e w' => e = .returned (.agg ((Nm.low 8 (Mx.narrow 64 s.data.toList)).map B).toArray) ∧ Below w.heap.size w w' := by
  obtain ⟨b0, b1, b2, b3, b4, b5, b6, b7, hL⟩ := eight _ (Nm.low_length 8 (Mx.narrow 64 s.data.toList))
  rw [hL]
  exact rid_of _ b0 b1 b2 b3 b4 b5 b6 b7 s w (Mx.narrow_lt _ _) hL fun W => rnarrow_any 64 s W (by omega) hs
end Go.Proofs.YtimdioacmojkeaaGreatDoor

namespace Go.Proofs.YtimdioacmojkeaaGreatDoor
open Go.RowKit
set_option maxRecDepth 4000

/-- what lies in cell j when d bytes, the last ones first, have been written -/
def idAt (l : List UInt8) (d j : Nat) : Int := if 8 - d ≤ j then ((l.getD j 0).toNat : Int) else 0
theorem low8_get (N d : Nat) (hd : d < 8) : (Nm.low 8 N).getD (7 - d) 0 = UInt8.ofNat (N / 256 ^ d % 256) := by
  match d, hd with
  | 0, _ => rfl
  | 1, _ => rfl
  | 2, _ => rfl
  | 3, _ => rfl
  | 4, _ => rfl
  | 5, _ => rfl
  | 6, _ => rfl
  | 7, _ => rfl
theorem idAt_new (N d : Nat) (hd : d < 8) : ((N / 256 ^ d : Nat) : Int) % 256 = idAt (Nm.low 8 N) (d + 1) (7 - d) := by
  rw [idAt, if_pos (by omega), low8_get N d hd, UInt8.toNat_ofNat']
  omega
theorem id_step {l : List UInt8} {d G : Nat} {w : World} {c : Int} (hd : d < 8) (hc : c = idAt l (d + 1) (7 - d)) (h : ∀ j, j < 8 → w.cell? ⟨G, j, none⟩ = some (.int .u8 (idAt l d j))) :
    ∀ j, j < 8 → (w.setCell ⟨G, 7 - d, none⟩ (.int .u8 c)).cell? ⟨G, j, none⟩ = some (.int .u8 (idAt l (d + 1) j)) := by
  intro j hj
  by_cases e : j = 7 - d
  · subst e
    rw [World.cell?_setCell_same _ _ _ (h _ hj), hc]
  · rw [World.cell?_setCell_other _ _ _ _ (by intro h; exact e (congrArg Addr.off h).symm), h j hj, idAt, idAt]
    by_cases hjk : 8 - d ≤ j
    · rw [if_pos hjk, if_pos (by omega)]
    · rw [if_neg hjk, if_neg (by omega)]

set_option maxHeartbeats 1000000 in
theorem id_of (N : Nat) (b0 b1 b2 b3 b4 b5 b6 b7 : UInt8) (s : ByteArray) (w : World) (hL : Nm.low 8 N = [b0, b1, b2, b3, b4, b5, b6, b7])
    (hn : ∀ W, Calls Tryz.prog 59 #[.string s] W fun e w' => e = .returned (.int .u64 N) ∧ Below W.heap.size W w') :
    Calls Tryz.prog 39 #[.string s] w fun e w' => e = .returned (.agg #[B b0, B b1, B b2, B b3, B b4, B b5, B b6, B b7]) ∧ Below w.heap.size w w' := by
  have HW : Hid (∀ d, d < 8 → ((N / 256 ^ d : Nat) : Int) % 256 = idAt (Nm.low 8 N) (d + 1) (7 - d)) := idAt_new N
  rw [hL] at HW
  clear hL
  go_enter Tryz.func39, Tryz.ntmps39
  go_wp2_with fail
  refine (hn _).mono ?_
  rintro e w1 ⟨rfl, hb1⟩
  have HB1 : Hid (Below w.heap.size w w1) := ((((Below.refl _ w).alloc (Nat.le_refl _) _).alloc (by simp) _)).trans (hb1.mono (by simp; omega))
  have HC : Hid (∀ j, j < 8 → w1.cell? ⟨w.heap.size + 1, j, none⟩ = some (.int .u8 (idAt [b0, b1, b2, b3, b4, b5, b6, b7] 0 j))) := fun j hj => by
    rw [idAt, if_neg (by omega)]
    refine (hb1.cell (p := ⟨w.heap.size + 1, j, none⟩) (by simp)).trans ?_
    match j, hj with
    | 0, _ => simp
    | 1, _ => simp
    | 2, _ => simp
    | 3, _ => simp
    | 4, _ => simp
    | 5, _ => simp
    | 6, _ => simp
    | 7, _ => simp
  have HF : Hid (∀ j, j < 8 → w1.frozen? ⟨w.heap.size + 1, j, none⟩ = false) := fun j hj =>
    (hb1.frozen (p := ⟨w.heap.size + 1, j, none⟩) (by simp)).trans (by simp)
  have HC0 : Hid (∀ j, j < 8 → w1.cell? ⟨w.heap.size, j, none⟩ = some (.int .u8 0)) := fun j hj => by
    refine (hb1.cell (p := ⟨w.heap.size, j, none⟩) (by simp; omega)).trans ?_
    match j, hj with
    | 0, _ => simp
    | 1, _ => simp
    | 2, _ => simp
    | 3, _ => simp
    | 4, _ => simp
    | 5, _ => simp
    | 6, _ => simp
    | 7, _ => simp
  have HF0 : Hid (∀ j, j < 8 → w1.frozen? ⟨w.heap.size, j, none⟩ = false) := fun j hj =>
    (hb1.frozen (p := ⟨w.heap.size, j, none⟩) (by simp; omega)).trans (by simp)
  clear hb1 hn
  go_wp2_with fail
  go_loopw [4, 5] (fun n i wr => ∃ d : Nat, d ≤ 8 ∧ n = .int .u64 ((N / 256 ^ d : Nat) : Int) ∧ i = .int .i64 (7 - (d : Int)) ∧ Hid (∀ j, j < 8 → wr.cell? ⟨w.heap.size + 1, j, none⟩ = some (.int .u8 (idAt [b0, b1, b2, b3, b4, b5, b6, b7] d j))) ∧
      Hid (∀ j, j < 8 → wr.frozen? ⟨w.heap.size + 1, j, none⟩ = false) ∧ Hid (∀ j, j < 8 → wr.cell? ⟨w.heap.size, j, none⟩ = some (.int .u8 0)) ∧ Hid (∀ j, j < 8 → wr.frozen? ⟨w.heap.size, j, none⟩ = false) ∧ Hid (Below w.heap.size w wr)) (fun _ i _ => (intOf i + 1).toNat)
  case atStart => exact ⟨0, by omega, by simp, rfl, HC, HF, HC0, HF0, HB1⟩
  case round =>
    obtain ⟨d, hd, rfl, rfl, hc, hf, hc0, hf0, hb⟩ := hrel
    clear HC HF HC0 HF0 HB1
    by_cases hlt : d < 8
    · have hst := id_step (G := w.heap.size + 1) (w := wr) hlt (HW.out d hlt) hc.out
      have HS : Hid (∀ j, j < 8 → (wr.setCell ⟨w.heap.size + 1, 7 - d, none⟩ (.int .u8 (((N / 256 ^ d : Nat) : Int) % 256))).cell? ⟨w.heap.size + 1, j, none⟩ = some (.int .u8 (idAt [b0, b1, b2, b3, b4, b5, b6, b7] (d + 1) j))) := hst
      clear hst
      have hq : ((N / 256 ^ d : Nat) : Int) / 256 = ((N / 256 ^ (d + 1) : Nat) : Int) := by
        rw [Nat.pow_succ, ← Nat.div_div_eq_div_mul]; omega
      have HQ : Hid (((N / 256 ^ d : Nat) : Int) / 256 = ((N / 256 ^ (d + 1) : Nat) : Int)) := hq
      clear hq
      have hkI : 7 - (d : Int) = ((7 - d : Nat) : Int) := by omega
      have hck := hc.out (7 - d) (by omega)
      have hfk := hf.out (7 - d) (by omega)
      generalize N / 256 ^ d = M at *
      go_wp2_with fail
      go_round
      case rel =>
        refine ⟨d + 1, by omega, int_eq HQ.out, int_eq (by omega), HS, ?_, ?_, ?_, ?_⟩
        · intro j hj
          simpa using hf.out j hj
        · intro j hj
          rw [World.cell?_setCell_other _ _ _ _ (by intro h; have := congrArg Addr.block h; simp at this)]
          exact hc0.out j hj
        · intro j hj
          simpa using hf0.out j hj
        · exact hb.out.setCell (by simp) _
      case measure => simp only [intOf]; omega
    · obtain rfl : d = 8 := by omega
      have c0 : wr.cell? ⟨w.heap.size + 1, 0, none⟩ = some (.int .u8 (b0.toNat : Int)) := hc.out 0 (by omega)
      have d0 := hc0.out 0 (by omega)
      have f0 := hf0.out 0 (by omega)
      have c1 : wr.cell? ⟨w.heap.size + 1, 1, none⟩ = some (.int .u8 (b1.toNat : Int)) := hc.out 1 (by omega)
      have d1 := hc0.out 1 (by omega)
      have f1 := hf0.out 1 (by omega)
      have c2 : wr.cell? ⟨w.heap.size + 1, 2, none⟩ = some (.int .u8 (b2.toNat : Int)) := hc.out 2 (by omega)
      have d2 := hc0.out 2 (by omega)
      have f2 := hf0.out 2 (by omega)
      have c3 : wr.cell? ⟨w.heap.size + 1, 3, none⟩ = some (.int .u8 (b3.toNat : Int)) := hc.out 3 (by omega)
      have d3 := hc0.out 3 (by omega)
      have f3 := hf0.out 3 (by omega)
      have c4 : wr.cell? ⟨w.heap.size + 1, 4, none⟩ = some (.int .u8 (b4.toNat : Int)) := hc.out 4 (by omega)
      have d4 := hc0.out 4 (by omega)
      have f4 := hf0.out 4 (by omega)
      have c5 : wr.cell? ⟨w.heap.size + 1, 5, none⟩ = some (.int .u8 (b5.toNat : Int)) := hc.out 5 (by omega)
      have d5 := hc0.out 5 (by omega)
      have f5 := hf0.out 5 (by omega)
      have c6 : wr.cell? ⟨w.heap.size + 1, 6, none⟩ = some (.int .u8 (b6.toNat : Int)) := hc.out 6 (by omega)
      have d6 := hc0.out 6 (by omega)
      have f6 := hf0.out 6 (by omega)
      have c7 : wr.cell? ⟨w.heap.size + 1, 7, none⟩ = some (.int .u8 (b7.toNat : Int)) := hc.out 7 (by omega)
      have d7 := hc0.out 7 (by omega)
      have f7 := hf0.out 7 (by omega)
      generalize N / 256 ^ 8 = M at *
      clear hc hf hc0 hf0 hd hlt HW
      go_wp2_with fail
      refine bodyPost_ret (v := .agg #[B b0, B b1, B b2, B b3, B b4, B b5, B b6, B b7]) ?_ rfl ⟨rfl, ?_⟩
      · have hres : Tryz.f39.results = #[.cell 2 29] := by kernel_rfl
        simp only [results, hres]
        go_simp
        exact ⟨rfl, rfl, rfl, rfl, rfl, rfl, rfl, rfl⟩
      · have hk : w.heap.size ≤ w.heap.size := Nat.le_refl _
        exact (((((((hb.out.setCell hk _).setCell hk _).setCell hk _).setCell hk _).setCell hk _).setCell hk _).setCell hk _).setCell hk _

theorem id_any (s : ByteArray) (w : World) (hs : s.size ≤ 140737488351232) :
    Calls Tryz.prog 39 #[.string s] w fun e w' => e = .returned (.agg ((Nm.low 8 (Mx.narrow 64 s.data.toList)).map B).toArray) ∧ Below w.heap.size w w' := by
  obtain ⟨b0, b1, b2, b3, b4, b5, b6, b7, hL⟩ := eight _ (Nm.low_length 8 (Mx.narrow 64 s.data.toList))
  rw [hL]
  exact id_of _ b0 b1 b2 b3 b4 b5 b6 b7 s w hL fun W => sum_any s W hs
end Go.Proofs.YtimdioacmojkeaaGreatDoor

namespace Go.Proofs.YtimdioacmojkeaaGreatDoor
open Go.RowKit

theorem id_eq (W : World) (xs ys : List UInt8) (hx : xs.length = 8) (hy : ys.length = 8) :
    (Op.equalIn 10000 29 (.agg (xs.map B).toArray) (.agg (ys.map B).toArray)).run Tryz.prog W = .ok (xs == ys) W :=
  run_equalIn_bytes (P := Tryz.prog) W 9998 29 5 8 (by kernel_rfl) (by kernel_rfl) (fun w => by go_simp) xs ys hx hy
end Go.Proofs.YtimdioacmojkeaaGreatDoor

namespace Go.Proofs.YtimdioacmojkeaaGreatDoor
open Go.RowKit

theorem eq_fields2 {P : Program} (W : World) (d : Nat) (xs ys : Array Value) (f0 f1 : Field) (v0 v1 u0 u1 : Value) (a b : Bool) (n0 : f0.name ≠ "_") (n1 : f1.name ≠ "_")
    (p0 : (part f0.type xs f0.offset).run P W = .ok v0 W) (p1 : (part f1.type xs f1.offset).run P W = .ok v1 W) (q0 : (part f0.type ys f0.offset).run P W = .ok u0 W) (q1 : (part f1.type ys f1.offset).run P W = .ok u1 W)
    (e0 : (Op.equalIn d f0.type v0 u0).run P W = .ok a W) (e1 : (Op.equalIn d f1.type v1 u1).run P W = .ok b W) :
    (Op.eqFields d xs ys [f0, f1]).run P W = .ok (a && b) W := by
  cases a <;> cases b <;> simp only [Op.eqFields, if_pos n0, if_pos n1, Sem.run_bind, p0, p1, q0, q1, Result.andThen_ok, e0, e1, Bool.not_true, Bool.not_false, Bool.false_eq_true, if_false, if_true, Sem.run_pure, Bool.and_true, Bool.and_false, Bool.and_self]

theorem eq_fields4 {P : Program} (W : World) (d : Nat) (xs : Array Value) (f0 f1 f2 f3 : Field) (v0 v1 v2 v3 : Value) (n0 : f0.name ≠ "_") (n1 : f1.name ≠ "_") (n2 : f2.name ≠ "_") (n3 : f3.name ≠ "_")
    (p0 : (part f0.type xs f0.offset).run P W = .ok v0 W) (p1 : (part f1.type xs f1.offset).run P W = .ok v1 W) (p2 : (part f2.type xs f2.offset).run P W = .ok v2 W) (p3 : (part f3.type xs f3.offset).run P W = .ok v3 W)
    (e0 : (Op.equalIn d f0.type v0 v0).run P W = .ok true W) (e1 : (Op.equalIn d f1.type v1 v1).run P W = .ok true W) (e2 : (Op.equalIn d f2.type v2 v2).run P W = .ok true W) (e3 : (Op.equalIn d f3.type v3 v3).run P W = .ok true W) :
    (Op.eqFields d xs xs [f0, f1, f2, f3]).run P W = .ok true W := by
  simp only [Op.eqFields, if_pos n0, if_pos n1, if_pos n2, if_pos n3, Sem.run_bind, p0, p1, p2, p3, Result.andThen_ok, e0, e1, e2, e3, Bool.not_true, Bool.false_eq_true, if_false, Sem.run_pure]

theorem fields_bl : ∃ f0 f1, (Tryz.prog.fieldsOf 37).toList = [f0, f1] ∧ f0.type = 3 ∧ f0.offset = 0 ∧ f0.name ≠ "_" ∧ f1.type = 9 ∧ f1.offset = 1 ∧ f1.name ≠ "_" := by
  rw [show (Tryz.prog.fieldsOf 37) = _ from by unfold Program.fieldsOf; rw [Tryz.underlying37]]
  exact ⟨_, _, rfl, rfl, rfl, by decide, rfl, rfl, by decide⟩

/-- are two blobs the same? -/
def blSame (a b : Blb) : Bool := (a.kind == b.kind) && (a.bytes.toList == b.bytes.toList)

theorem blSame_self (a : Blb) : blSame a a = true := by simp [blSame]

theorem blSame_iff {a b : Blb} : blSame a b = true ↔ a = b := by
  constructor
  · intro h
    simp only [blSame, Bool.and_eq_true, beq_iff_eq, Lib.toList_data] at h
    exact Blb.p_inj (Prod.ext h.1 h.2)
  · rintro rfl
    exact blSame_self a

theorem bl_cmp_at (d : Nat) (W : World) (a b : Blb) :
    (Op.equalIn (d + 1 + 1) 37 (.agg #[.int .i64 a.kind, .string a.bytes]) (.agg #[.int .i64 b.kind, .string b.bytes])).run Tryz.prog W = .ok (blSame a b) W := by
  have hp : Tryz.prog.stoodInHeld 37 = false := by kernel_rfl
  have hf : Tryz.prog.underlying 37 = some (.struct (Tryz.prog.fieldsOf 37)) := by kernel_rfl
  obtain ⟨f0, f1, hfs, t0, o0, n0, t1, o1, n1⟩ := fields_bl
  have h0 : (Op.equalIn (d + 1) 3 (.int .i64 a.kind) (.int .i64 b.kind)).run Tryz.prog W = .ok (a.kind == b.kind) W := run_equalIn_int W d 3 .i64 .i64 a.kind b.kind (by kernel_rfl)
  have h1 : (Op.equalIn (d + 1) 9 (.string a.bytes) (.string b.bytes)).run Tryz.prog W = .ok (a.bytes.toList == b.bytes.toList) W := run_equalIn_string (P := Tryz.prog) W d 9 a.bytes b.bytes (by kernel_rfl)
  rw [run_equalIn_struct W (d + 1) 37 _ _ hf hp, hfs]
  exact eq_fields2 W (d + 1) _ _ f0 f1 (.int .i64 a.kind) (.string a.bytes) (.int .i64 b.kind) (.string b.bytes) _ _ n0 n1 (by rw [t0, o0]; simp [part, go_sem]) (by rw [t1, o1]; simp [part, go_sem]) (by rw [t0, o0]; simp [part, go_sem]) (by rw [t1, o1]; simp [part, go_sem]) (by rw [t0]; exact h0) (by rw [t1]; exact h1)

theorem bl_cmp (W : World) (a b : Blb) :
    (Op.equalIn 10000 37 (.agg #[.int .i64 a.kind, .string a.bytes]) (.agg #[.int .i64 b.kind, .string b.bytes])).run Tryz.prog W = .ok (blSame a b) W := bl_cmp_at 9998 W a b

theorem part_id (W : World) (e : Ent) : (part 29 (enC e).toArray 0).run Tryz.prog W = .ok (.agg (e.id.map B).toArray) W := by
  have h : List.take 8 (enC e) = List.map B e.id := by
    rw [enC, List.take_append_of_le_length (by rw [List.length_map, e.hid]; omega), List.take_of_length_le (by rw [List.length_map, e.hid]; omega)]
  simp [part, go_sem, h]

theorem enC_8 (e : Ent) : (enC e)[8]? = some (.int .i64 e.kind) := by
  rw [enC, List.getElem?_append_right (by simp [e.hid]), List.length_map, e.hid]; rfl

theorem enC_9 (e : Ent) : (enC e)[9]? = some (.int .i64 e.at_) := by
  rw [enC, List.getElem?_append_right (by simp [e.hid]), List.length_map, e.hid]; rfl

theorem enC_10 (e : Ent) : (enC e)[10]? = some (.int .i64 e.len) := by
  rw [enC, List.getElem?_append_right (by simp [e.hid]), List.length_map, e.hid]; rfl

theorem part_kind (W : World) (e : Ent) : (part 3 (enC e).toArray 8).run Tryz.prog W = .ok (.int .i64 e.kind) W := by
  have h := enC_8 e
  simp [part, go_sem, h]

theorem part_at_ (W : World) (e : Ent) : (part 3 (enC e).toArray 9).run Tryz.prog W = .ok (.int .i64 e.at_) W := by
  have h := enC_9 e
  simp [part, go_sem, h]

theorem part_len (W : World) (e : Ent) : (part 3 (enC e).toArray 10).run Tryz.prog W = .ok (.int .i64 e.len) W := by
  have h := enC_10 e
  simp [part, go_sem, h]

theorem id_eq_at (W : World) (d : Nat) (xs ys : List UInt8) (hx : xs.length = 8) (hy : ys.length = 8) :
    (Op.equalIn (d + 2) 29 (.agg (xs.map B).toArray) (.agg (ys.map B).toArray)).run Tryz.prog W = .ok (xs == ys) W :=
  run_equalIn_bytes (P := Tryz.prog) W d 29 5 8 (by kernel_rfl) (by kernel_rfl) (fun w => by go_simp) xs ys hx hy
end Go.Proofs.YtimdioacmojkeaaGreatDoor

namespace Go.Proofs.YtimdioacmojkeaaGreatDoor
open Go.RowKit
set_option maxRecDepth 4000

def kB (k : Int) : Bool := decide (k = 1 ∨ k = 2 ∨ k = 3)

theorem kB_of {k : Int} : kB k = true ↔ Pk.kOK k := by simp [kB, Pk.kOK]

theorem isKind_any (k : Int) (w : World) :
    Calls Tryz.prog 38 #[.int .i64 k] w fun e w' => e = .returned (.bool (kB k)) ∧ w' = w := by
  by_cases h1 : k = 1
  · subst h1
    go_enter Tryz.func38, Tryz.ntmps38
    go_wp2_with fail
    go_ret
    exact ⟨rfl, rfl⟩
  by_cases h2 : k = 2
  · subst h2
    go_enter Tryz.func38, Tryz.ntmps38
    go_wp2_with fail
    go_ret
    exact ⟨rfl, rfl⟩
  by_cases h3 : k = 3
  · subst h3
    go_enter Tryz.func38, Tryz.ntmps38
    go_wp2_with fail
    go_ret
    exact ⟨rfl, rfl⟩
  have HE : Hid (kB k = false) := decide_eq_false fun h => by omega
  have e1 : (k == 1) = false := beq_eq_false_iff_ne.2 h1
  have e2 : (k == 2) = false := beq_eq_false_iff_ne.2 h2
  have e3 : (k == 3) = false := beq_eq_false_iff_ne.2 h3
  go_enter Tryz.func38, Tryz.ntmps38
  go_wp2_with fail
  go_ret
  exact ⟨by rw [HE.out]; rfl, rfl⟩

theorem rkind_any (k : Int) (w : World) :
    Calls Tryz.prog 95 #[.int .i64 k] w fun e w' => e = .returned (.bool (kB k)) ∧ w' = w := by
  by_cases h1 : k = 1
  · subst h1
    go_enter Tryz.func95, Tryz.ntmps95
    go_wp2_with fail
    go_ret
    exact ⟨rfl, rfl⟩
  by_cases h2 : k = 2
  · subst h2
    go_enter Tryz.func95, Tryz.ntmps95
    go_wp2_with fail
    go_ret
    exact ⟨rfl, rfl⟩
  by_cases h3 : k = 3
  · subst h3
    go_enter Tryz.func95, Tryz.ntmps95
    go_wp2_with fail
    go_ret
    exact ⟨rfl, rfl⟩
  have HE : Hid (kB k = false) := decide_eq_false fun h => by omega
  have e1 : (k == 1) = false := beq_eq_false_iff_ne.2 h1
  have e2 : (k == 2) = false := beq_eq_false_iff_ne.2 h2
  have e3 : (k == 3) = false := beq_eq_false_iff_ne.2 h3
  go_enter Tryz.func95, Tryz.ntmps95
  go_wp2_with fail
  go_ret
  exact ⟨by rw [HE.out]; rfl, rfl⟩

/-- what ID hands back -/
def idOr (b : Blb) : List UInt8 := if Pk.bErr b.p = 0 then Pk.bid b.p else List.replicate 8 0

theorem idOr_length (b : Blb) : (idOr b).length = 8 := by
  unfold idOr; split
  · exact Pk.bid_length _
  · simp

abbrev Z8 : Array Value := #[.int .u8 0, .int .u8 0, .int .u8 0, .int .u8 0, .int .u8 0, .int .u8 0, .int .u8 0, .int .u8 0]

theorem id8_cell (w : World) (t : TypeId) (j : Nat) (hj : j < 8) : (w.alloc (.cells Z8 t)).cell? ⟨w.heap.size, j, none⟩ = some (.int .u8 0) := by
  rw [cell_of_row _ w.heap.size j _ _ _ (heap_alloc_new w _)]
  match j, hj with
  | 0, _ => rfl
  | 1, _ => rfl
  | 2, _ => rfl
  | 3, _ => rfl
  | 4, _ => rfl
  | 5, _ => rfl
  | 6, _ => rfl
  | 7, _ => rfl

theorem id8_free (w : World) (t : TypeId) (j : Nat) : (w.alloc (.cells Z8 t)).frozen? ⟨w.heap.size, j, none⟩ = false := by
  simp

/-- eight cells, all of which may be written -/
structure I8 (W : World) (G : Nat) (x : List UInt8) : Prop where
  len : x.length = 8
  at_ : ∀ j, j < 8 → W.cell? ⟨G, j, none⟩ = some (.int .u8 ((x.getD j 0).toNat : Int))
  fz : ∀ j, j < 8 → W.frozen? ⟨G, j, none⟩ = false
  lt : G < W.heap.size

theorem I8.below {W W' : World} {G B : Nat} {x : List UInt8} (h : I8 W G x) (hb : Below B W W') (hg : G < B) : I8 W' G x :=
  ⟨h.len, fun j hj => (hb.cell (p := ⟨G, j, none⟩) hg).trans (h.at_ j hj), fun j hj => (hb.frozen (p := ⟨G, j, none⟩) hg).trans (h.fz j hj), Nat.lt_of_lt_of_le h.lt hb.size⟩

theorem I8.new (w : World) (t : TypeId) : I8 (w.alloc (.cells Z8 t)) w.heap.size (List.replicate 8 0) :=
  ⟨by simp, fun j hj => by rw [id8_cell w t j hj]; rw [List.getD_eq_getElem?_getD, List.getElem?_replicate, if_pos hj]; rfl, fun j _ => id8_free w t j, by simp⟩

theorem I8.cells {W : World} {G : Nat} {b0 b1 b2 b3 b4 b5 b6 b7 : UInt8} (h : I8 W G [b0, b1, b2, b3, b4, b5, b6, b7]) :
    W.cell? ⟨G, 0, none⟩ = some (.int .u8 (b0.toNat : Int)) ∧ W.cell? ⟨G, 1, none⟩ = some (.int .u8 (b1.toNat : Int)) ∧ W.cell? ⟨G, 2, none⟩ = some (.int .u8 (b2.toNat : Int)) ∧ W.cell? ⟨G, 3, none⟩ = some (.int .u8 (b3.toNat : Int)) ∧
    W.cell? ⟨G, 4, none⟩ = some (.int .u8 (b4.toNat : Int)) ∧ W.cell? ⟨G, 5, none⟩ = some (.int .u8 (b5.toNat : Int)) ∧ W.cell? ⟨G, 6, none⟩ = some (.int .u8 (b6.toNat : Int)) ∧ W.cell? ⟨G, 7, none⟩ = some (.int .u8 (b7.toNat : Int)) :=
  ⟨h.at_ 0 (by omega), h.at_ 1 (by omega), h.at_ 2 (by omega), h.at_ 3 (by omega), h.at_ 4 (by omega), h.at_ 5 (by omega), h.at_ 6 (by omega), h.at_ 7 (by omega)⟩

theorem I8.free {W : World} {G : Nat} {x : List UInt8} (h : I8 W G x) :
    W.frozen? ⟨G, 0, none⟩ = false ∧ W.frozen? ⟨G, 1, none⟩ = false ∧ W.frozen? ⟨G, 2, none⟩ = false ∧ W.frozen? ⟨G, 3, none⟩ = false ∧ W.frozen? ⟨G, 4, none⟩ = false ∧ W.frozen? ⟨G, 5, none⟩ = false ∧ W.frozen? ⟨G, 6, none⟩ = false ∧ W.frozen? ⟨G, 7, none⟩ = false :=
  ⟨h.fz 0 (by omega), h.fz 1 (by omega), h.fz 2 (by omega), h.fz 3 (by omega), h.fz 4 (by omega), h.fz 5 (by omega), h.fz 6 (by omega), h.fz 7 (by omega)⟩

/-- eight cells written -/
def set8 (W : World) (G : Nat) (b0 b1 b2 b3 b4 b5 b6 b7 : UInt8) : World :=
  (((((((W.setCell ⟨G, 0, none⟩ (B b0)).setCell ⟨G, 1, none⟩ (B b1)).setCell ⟨G, 2, none⟩ (B b2)).setCell ⟨G, 3, none⟩ (B b3)).setCell ⟨G, 4, none⟩ (B b4)).setCell ⟨G, 5, none⟩ (B b5)).setCell ⟨G, 6, none⟩ (B b6)).setCell ⟨G, 7, none⟩ (B b7)

theorem I8.set1 {W : World} {G : Nat} {x : List UInt8} (h : I8 W G x) (k : Nat) (hk : k < 8) (b : UInt8) : I8 (W.setCell ⟨G, k, none⟩ (B b)) G (x.set k b) := by
  refine ⟨by rw [List.length_set]; exact h.len, fun j hj => ?_, fun j hj => by simpa using h.fz j hj, by simpa using h.lt⟩
  by_cases e : j = k
  · subst e
    rw [World.cell?_setCell_same _ _ _ (h.at_ j hj), List.getD_eq_getElem?_getD, List.getElem?_set_self (by rw [h.len]; exact hj)]
    rfl
  · rw [World.cell?_setCell_other _ _ _ _ (by intro q; exact e (congrArg Addr.off q).symm), h.at_ j hj, List.getD_eq_getElem?_getD, List.getD_eq_getElem?_getD, List.getElem?_set_ne (by omega)]

theorem I8.store {W : World} {G : Nat} {x : List UInt8} (h : I8 W G x) (b0 b1 b2 b3 b4 b5 b6 b7 : UInt8) : I8 (set8 W G b0 b1 b2 b3 b4 b5 b6 b7) G [b0, b1, b2, b3, b4, b5, b6, b7] := by
  have := (((((((h.set1 0 (by omega) b0).set1 1 (by omega) b1).set1 2 (by omega) b2).set1 3 (by omega) b3).set1 4 (by omega) b4).set1 5 (by omega) b5).set1 6 (by omega) b6).set1 7 (by omega) b7
  obtain ⟨c0, c1, c2, c3, c4, c5, c6, c7, rfl⟩ := eight x h.len
  exact this

theorem below_set8 {B' : Nat} {w W : World} {G : Nat} (h : Below B' w W) (hg : B' ≤ G) (b0 b1 b2 b3 b4 b5 b6 b7 : UInt8) : Below B' w (set8 W G b0 b1 b2 b3 b4 b5 b6 b7) :=
  (((((((h.setCell hg _).setCell hg _).setCell hg _).setCell hg _).setCell hg _).setCell hg _).setCell hg _).setCell hg _

set_option maxHeartbeats 1000000 in
theorem pid_of (b0 b1 b2 b3 b4 b5 b6 b7 : UInt8) (k : Nat) (s : ByteArray) (w : World) (hk : kB (k : Int) = true) (hk3 : k ≤ 3) (hs : s.size ≤ 4096)
    (hn : ∀ W, Calls Tryz.prog 39 #[.string ⟨(UInt8.ofNat k :: s.data.toList).toArray⟩] W fun e w' => e = .returned (.agg #[B b0, B b1, B b2, B b3, B b4, B b5, B b6, B b7]) ∧ Below W.heap.size W w') :
    Calls Tryz.prog 20 #[.agg #[.int .i64 k, .string s]] w fun e w' => e = .returned (.tuple #[.agg #[B b0, B b1, B b2, B b3, B b4, B b5, B b6, B b7], .int .i64 0]) ∧ Below w.heap.size w w' := by
  obtain ⟨i0, hi, hz0, hz1, hz2⟩ := info_parts info_u8
  simp only [B] at hn
  have hisk := fun W => isKind_any (k : Int) W
  rw [hk] at hisk
  clear hk
  obtain ⟨W2, hW2⟩ : ∃ W2, W2 = (w.alloc (.cells #[.int .i64 k, .string s] 37)).alloc (.cells Z8 29) := ⟨_, rfl⟩
  have hsz : W2.heap.size = w.heap.size + 2 := by rw [hW2]; simp
  have hX : I8 W2 (w.heap.size + 1) (List.replicate 8 0) := by
    rw [hW2]
    have := I8.new (w.alloc (.cells #[.int .i64 k, .string s] 37)) 29
    rwa [World.size_alloc] at this
  have hB2 : Below w.heap.size w W2 := by rw [hW2]; exact ((Below.refl _ w).alloc (Nat.le_refl _) _).alloc (by simp) _
  have c0 : W2.cell? ⟨w.heap.size, 0, none⟩ = some (.int .i64 k) := by rw [hW2]; simp
  have c1 : W2.cell? ⟨w.heap.size, 1, none⟩ = some (.string s) := by rw [hW2]; simp
  have hone := owns_one W2 (k : Int) (by omega) (by omega)
  rw [Int.toNat_natCast, hsz] at hone
  dsimp only [Z8] at hW2
  go_enter Tryz.func20, Tryz.ntmps20
  go_wp2_with fail
  rw [← hW2]
  clear hW2
  refine (hisk _).mono ?_
  rintro e u ⟨rfl, hu⟩
  obtain rfl := hu.symm
  clear hu hisk
  go_wp2_with (at_builtin; refine Lib.wpList_append_own_string _ rfl (.tmp 17) (.tmp 19) 84 9 rfl (w.heap.size + 2) 5 i0 Tryz.underlying84 Tryz.underlying9 hi hz0 hz1 hz2 _ _ _ rfl hone s rfl ?c3 ?c4 ?c5 ?_)
  case c3 => unfold maxLen; simp only [List.length_cons, List.length_nil]; omega
  case c4 => simp only [List.length_cons, List.length_nil]; omega
  case c5 => simp; omega
  intro v1 w1 hown1 hgrow _
  have hb1 : Below (w.heap.size + 2) W2 w1 := (((Below.refl _ W2).alloc (by omega) _)).grown hgrow (by simp; omega) fun j hj => (hone.lt j hj).1
  have hrow : w1.ownsRow (w.heap.size + 2) 5 1 v1 (UInt8.ofNat k :: s.data.toList).length ((UInt8.ofNat k :: s.data.toList).map B) := by
    have e : (UInt8.ofNat k :: s.data.toList).length = 1 + s.size := by rw [Lib.size_eq]; simp only [List.length_cons]; omega
    rw [e]
    exact hown1
  have hstr := run_str hrow
  have hX1 := hX.below hb1 (by omega)
  have HB1 : Hid (Below w.heap.size w w1) := hB2.trans (hb1.mono (by omega))
  obtain ⟨a1, q1, rfl⟩ := own_form hown1
  clear hown1 hgrow hone hrow hX hb1 hB2 c0 c1
  go_wp2_with fail
  refine (hn _).mono ?_
  rintro e w2 ⟨rfl, hb2⟩
  have hX2 := hX1.below hb2 hX1.lt
  obtain ⟨e0, e1, e2, e3, e4, e5, e6, e7⟩ := I8.cells (b0 := 0) (b1 := 0) (b2 := 0) (b3 := 0) (b4 := 0) (b5 := 0) (b6 := 0) (b7 := 0) hX2
  obtain ⟨f0, f1, f2, f3, f4, f5, f6, f7⟩ := hX2.free
  have HB2 : Hid (Below w.heap.size w (set8 w2 (w.heap.size + 1) b0 b1 b2 b3 b4 b5 b6 b7)) := below_set8 (HB1.out.trans (hb2.mono HB1.out.size)) (by omega) _ _ _ _ _ _ _ _
  clear hX1 hX2 hb2 hn hstr HB1
  go_wp2_with fail
  refine bodyPost_ret (v := .tuple #[.agg #[B b0, B b1, B b2, B b3, B b4, B b5, B b6, B b7], .int .i64 0]) ?_ rfl ⟨rfl, HB2.out⟩
  have hres : Tryz.f20.results = #[.cell 2 29, .tmp 3] := by kernel_rfl
  simp only [results, hres]
  go_simp
  exact ⟨rfl, rfl, rfl, rfl, rfl, rfl, rfl, rfl⟩

set_option maxHeartbeats 1000000 in
theorem pid_kind (k : Int) (s : ByteArray) (w : World) (hk : kB k = false) :
    Calls Tryz.prog 20 #[.agg #[.int .i64 k, .string s]] w fun e w' => e = .returned (.tuple #[.agg ((List.replicate 8 0).map B).toArray, .int .i64 5]) ∧ Below w.heap.size w w' := by
  have hisk := fun W => isKind_any k W
  rw [hk] at hisk
  clear hk
  obtain ⟨W2, hW2⟩ : ∃ W2, W2 = (w.alloc (.cells #[.int .i64 k, .string s] 37)).alloc (.cells Z8 29) := ⟨_, rfl⟩
  have hX : I8 W2 (w.heap.size + 1) (List.replicate 8 0) := by
    rw [hW2]
    have := I8.new (w.alloc (.cells #[.int .i64 k, .string s] 37)) 29
    rwa [World.size_alloc] at this
  have hB2 : Below w.heap.size w W2 := by rw [hW2]; exact ((Below.refl _ w).alloc (Nat.le_refl _) _).alloc (by simp) _
  have c0 : W2.cell? ⟨w.heap.size, 0, none⟩ = some (.int .i64 k) := by rw [hW2]; simp
  have c1 : W2.cell? ⟨w.heap.size, 1, none⟩ = some (.string s) := by rw [hW2]; simp
  dsimp only [Z8] at hW2
  obtain ⟨e0, e1, e2, e3, e4, e5, e6, e7⟩ := I8.cells (b0 := 0) (b1 := 0) (b2 := 0) (b3 := 0) (b4 := 0) (b5 := 0) (b6 := 0) (b7 := 0) hX
  obtain ⟨f0, f1, f2, f3, f4, f5, f6, f7⟩ := hX.free
  have HB2 : Hid (Below w.heap.size w (set8 W2 (w.heap.size + 1) 0 0 0 0 0 0 0 0)) := below_set8 hB2 (by omega) _ _ _ _ _ _ _ _
  clear hX hB2
  go_enter Tryz.func20, Tryz.ntmps20
  go_wp2_with fail
  rw [← hW2]
  clear hW2
  refine (hisk _).mono ?_
  rintro e u ⟨rfl, hu⟩
  obtain rfl := hu.symm
  clear hu hisk
  go_wp2_with fail
  refine bodyPost_ret (v := .tuple #[.agg #[B 0, B 0, B 0, B 0, B 0, B 0, B 0, B 0], .int .i64 5]) ?_ rfl ⟨rfl, HB2.out⟩
  have hres : Tryz.f20.results = #[.cell 2 29, .tmp 3] := by kernel_rfl
  simp only [results, hres]
  go_simp
  rfl

set_option maxHeartbeats 1000000 in
theorem pid_large (k : Int) (s : ByteArray) (w : World) (hk : kB k = true) (hs : 4096 < s.size) (hs2 : s.size ≤ 9223372036854775807) :
    Calls Tryz.prog 20 #[.agg #[.int .i64 k, .string s]] w fun e w' => e = .returned (.tuple #[.agg ((List.replicate 8 0).map B).toArray, .int .i64 2]) ∧ Below w.heap.size w w' := by
  have hisk := fun W => isKind_any k W
  rw [hk] at hisk
  clear hk
  obtain ⟨W2, hW2⟩ : ∃ W2, W2 = (w.alloc (.cells #[.int .i64 k, .string s] 37)).alloc (.cells Z8 29) := ⟨_, rfl⟩
  have hX : I8 W2 (w.heap.size + 1) (List.replicate 8 0) := by
    rw [hW2]
    have := I8.new (w.alloc (.cells #[.int .i64 k, .string s] 37)) 29
    rwa [World.size_alloc] at this
  have hB2 : Below w.heap.size w W2 := by rw [hW2]; exact ((Below.refl _ w).alloc (Nat.le_refl _) _).alloc (by simp) _
  have c0 : W2.cell? ⟨w.heap.size, 0, none⟩ = some (.int .i64 k) := by rw [hW2]; simp
  have c1 : W2.cell? ⟨w.heap.size, 1, none⟩ = some (.string s) := by rw [hW2]; simp
  dsimp only [Z8] at hW2
  obtain ⟨e0, e1, e2, e3, e4, e5, e6, e7⟩ := I8.cells (b0 := 0) (b1 := 0) (b2 := 0) (b3 := 0) (b4 := 0) (b5 := 0) (b6 := 0) (b7 := 0) hX
  obtain ⟨f0, f1, f2, f3, f4, f5, f6, f7⟩ := hX.free
  have HB2 : Hid (Below w.heap.size w (set8 W2 (w.heap.size + 1) 0 0 0 0 0 0 0 0)) := below_set8 hB2 (by omega) _ _ _ _ _ _ _ _
  clear hX hB2
  go_enter Tryz.func20, Tryz.ntmps20
  go_wp2_with fail
  rw [← hW2]
  clear hW2
  refine (hisk _).mono ?_
  rintro e u ⟨rfl, hu⟩
  obtain rfl := hu.symm
  clear hu hisk
  go_wp2_with fail
  refine bodyPost_ret (v := .tuple #[.agg #[B 0, B 0, B 0, B 0, B 0, B 0, B 0, B 0], .int .i64 2]) ?_ rfl ⟨rfl, HB2.out⟩
  have hres : Tryz.f20.results = #[.cell 2 29, .tmp 3] := by kernel_rfl
  simp only [results, hres]
  go_simp
  rfl

/-- what ID answers -/
theorem pid_any (b : Blb) (w : World) (hb : b.bytes.size ≤ 9223372036854775807) :
    Calls Tryz.prog 20 #[blV b] w fun e w' => e = .returned (.tuple #[.agg ((idOr b).map B).toArray, .int .i64 (Pk.bErr b.p)]) ∧ Below w.heap.size w w' := by
  obtain ⟨k, s⟩ := b
  have hsz : s.data.toList.length = s.size := (Lib.size_eq s).symm
  by_cases hk : kB k = true
  · have hk' : k = 1 ∨ k = 2 ∨ k = 3 := kB_of.1 hk
    by_cases hs : s.size ≤ 4096
    · have he : Pk.bErr (Blb.p ⟨k, s⟩) = 0 := by
        show (if k = 1 ∨ k = 2 ∨ k = 3 then (if 4096 < s.data.toList.length then (2 : Int) else 0) else 5) = 0
        rw [if_pos hk', if_neg (by omega)]
      have hi : idOr ⟨k, s⟩ = Nm.low 8 (Mx.narrow 64 (UInt8.ofNat k.toNat :: s.data.toList)) := by rw [idOr, if_pos he]; rfl
      obtain ⟨b0, b1, b2, b3, b4, b5, b6, b7, hL⟩ := eight _ (idOr_length ⟨k, s⟩)
      obtain ⟨n, rfl⟩ : ∃ n : Nat, k = (n : Int) := ⟨k.toNat, by rcases hk' with rfl | rfl | rfl <;> rfl⟩
      have hn3 : n ≤ 3 := by rcases hk' with h | h | h <;> omega
      rw [he, hL]
      refine pid_of b0 b1 b2 b3 b4 b5 b6 b7 n s w hk hn3 hs fun W => ?_
      have := id_any ⟨(UInt8.ofNat n :: s.data.toList).toArray⟩ W (by rw [Lib.size_eq]; simp only [List.length_cons]; omega)
      rw [show Nm.low 8 (Mx.narrow 64 (⟨(UInt8.ofNat n :: s.data.toList).toArray⟩ : ByteArray).data.toList) = [b0, b1, b2, b3, b4, b5, b6, b7] from by rw [← hL, hi]; rfl] at this
      exact this
    · have he : Pk.bErr (Blb.p ⟨k, s⟩) = 2 := by
        show (if k = 1 ∨ k = 2 ∨ k = 3 then (if 4096 < s.data.toList.length then (2 : Int) else 0) else 5) = 2
        rw [if_pos hk', if_pos (by omega)]
      rw [idOr, if_neg (by omega), he]
      exact pid_large k s w hk (by omega) hb
  · have he : Pk.bErr (Blb.p ⟨k, s⟩) = 5 := by
      show (if k = 1 ∨ k = 2 ∨ k = 3 then (if 4096 < s.data.toList.length then (2 : Int) else 0) else 5) = 5
      rw [if_neg (fun h : k = 1 ∨ k = 2 ∨ k = 3 => hk (kB_of.2 h))]
    rw [idOr, if_neg (by omega), he]
    exact pid_kind k s w (by simpa using hk)

end Go.Proofs.YtimdioacmojkeaaGreatDoor

namespace Go.Proofs.YtimdioacmojkeaaGreatDoor
open Go.RowKit
set_option maxRecDepth 4000

theorem zero_blb (w : World) : (zeroValue 37).run Tryz.prog w = .ok (.agg #[.int .i64 0, .string ⟨#[]⟩]) w := by kernel_rfl

theorem under_heap : Tryz.prog.underlying 57 = some (.map 29 37) := by kernel_rfl

theorem I8.laid {W : World} {G : Nat} {t : TypeId} {b0 b1 b2 b3 b4 b5 b6 b7 : UInt8} (h : W.heap[G]? = some (.cells #[.int .u8 (b0.toNat : Int), .int .u8 (b1.toNat : Int), .int .u8 (b2.toNat : Int), .int .u8 (b3.toNat : Int), .int .u8 (b4.toNat : Int), .int .u8 (b5.toNat : Int), .int .u8 (b6.toNat : Int), .int .u8 (b7.toNat : Int)] t (0, 0))) : I8 W G [b0, b1, b2, b3, b4, b5, b6, b7] := by
  refine ⟨rfl, fun j hj => ?_, fun j hj => ?_, (Array.getElem?_eq_some_iff.1 h).1⟩
  · match j, hj with
    | 0, _ | 1, _ | 2, _ | 3, _ | 4, _ | 5, _ | 6, _ | 7, _ => simp [World.cell?, h]
  · simp [World.frozen?, h]

set_option maxHeartbeats 1000000 in
theorem hget_any (m n : Nat) (bs : List Blb) (id : List UInt8) (hid : id.length = 8) (kind : Int) (w : World) (h : Mp w m n (mpB bs)) :
    Calls Tryz.prog 57 #[.map (some m), idV id, .int .i64 kind] w fun e w' => e = .returned (.tuple #[.string ⟨(Wk.blobOf (pl bs) id kind).1.toArray⟩, .int .i64 (Wk.blobOf (pl bs) id kind).2]) ∧ Below w.heap.size w w' := by
  obtain ⟨b0, b1, b2, b3, b4, b5, b6, b7, rfl⟩ := eight id hid
  have eV : idV [b0, b1, b2, b3, b4, b5, b6, b7] = .agg #[.int .u8 (b0.toNat : Int), .int .u8 (b1.toNat : Int), .int .u8 (b2.toNat : Int), .int .u8 (b3.toNat : Int), .int .u8 (b4.toNat : Int), .int .u8 (b5.toNat : Int), .int .u8 (b6.toNat : Int), .int .u8 (b7.toNat : Int)] := rfl
  rw [eV]
  unfold Wk.blobOf
  obtain ⟨W1, hW1⟩ : ∃ W1, W1 = w.alloc (.cells #[.int .u8 (b0.toNat : Int), .int .u8 (b1.toNat : Int), .int .u8 (b2.toNat : Int), .int .u8 (b3.toNat : Int), .int .u8 (b4.toNat : Int), .int .u8 (b5.toNat : Int), .int .u8 (b6.toNat : Int), .int .u8 (b7.toNat : Int)] 29) := ⟨_, rfl⟩
  have hB1 : Below w.heap.size w W1 := by rw [hW1]; exact (Below.refl _ w).alloc (Nat.le_refl _) _
  have HB1 : Hid (Below w.heap.size w W1) := hB1
  have hX : I8 W1 w.heap.size [b0, b1, b2, b3, b4, b5, b6, b7] := I8.laid (by rw [hW1]; exact heap_alloc_new w _)
  obtain ⟨e0, e1, e2, e3, e4, e5, e6, e7⟩ := hX.cells
  have hm1 : Mp W1 m n (mpB bs) := h.below hB1
  clear h hX hB1
  rcases find_bid bs [b0, b1, b2, b3, b4, b5, b6, b7] with ⟨h1, h2⟩ | ⟨o, _, h1, h2⟩
  · rw [h1]
    dsimp only
    have hlook : (Instr.lookup 57 (.map (some m)) (.agg #[.int .u8 (b0.toNat : Int), .int .u8 (b1.toNat : Int), .int .u8 (b2.toNat : Int), .int .u8 (b3.toNat : Int), .int .u8 (b4.toNat : Int), .int .u8 (b5.toNat : Int), .int .u8 (b6.toNat : Int), .int .u8 (b7.toNat : Int)]) true).run Tryz.prog W1 = .ok (.tuple #[.agg #[.int .i64 0, .string ⟨#[]⟩], .bool false]) W1 := hm1.miss under_heap (zero_blb _) (x := [b0, b1, b2, b3, b4, b5, b6, b7]) rfl h2
    have HB2 : Hid (∀ o, Below w.heap.size w (W1.alloc o)) := fun o => HB1.out.alloc HB1.out.size o
    clear h1 h2 hm1
    go_enter Tryz.func57, Tryz.ntmps57
    go_upto_region 1 with fail
    rw [← hW1]
    clear hW1
    go_wp2_with fail
    go_ret2
    exact ⟨rfl, HB2.out _⟩
  · rw [h1]
    dsimp only
    have hlook : (Instr.lookup 57 (.map (some m)) (.agg #[.int .u8 (b0.toNat : Int), .int .u8 (b1.toNat : Int), .int .u8 (b2.toNat : Int), .int .u8 (b3.toNat : Int), .int .u8 (b4.toNat : Int), .int .u8 (b5.toNat : Int), .int .u8 (b6.toNat : Int), .int .u8 (b7.toNat : Int)]) true).run Tryz.prog W1 = .ok (.tuple #[.agg #[.int .i64 o.kind, .string o.bytes], .bool true]) W1 := hm1.hit under_heap (zero_blb _) h2
    have HB2 : Hid (∀ o, Below w.heap.size w (W1.alloc o)) := fun o => HB1.out.alloc HB1.out.size o
    have HE : Hid ((⟨o.p.2.toArray⟩ : ByteArray) = o.bytes) := rfl
    clear h1 h2 hm1
    by_cases hk : o.kind = kind
    · have hq : (o.kind != kind) = false := by rw [hk]; simp
      rw [if_neg (fun q : o.p.1 ≠ kind => q hk)]
      dsimp only
      go_enter Tryz.func57, Tryz.ntmps57
      go_upto_region 1 with fail
      rw [← hW1]
      clear hW1
      go_wp2_with fail
      go_ret2
      exact ⟨by rw [HE.out]; rfl, HB2.out _⟩
    · have hq : (o.kind != kind) = true := by rw [bne_iff_ne]; exact hk
      rw [if_pos (show o.p.1 ≠ kind from hk)]
      dsimp only
      go_enter Tryz.func57, Tryz.ntmps57
      go_upto_region 1 with fail
      rw [← hW1]
      clear hW1
      go_wp2_with fail
      go_ret2
      exact ⟨rfl, HB2.out _⟩

theorem I8.kept {p : Nat → Prop} {W W' : World} {G : Nat} {x : List UInt8} (h : I8 W G x) (hk : Kept p W W') (hp : p G) : I8 W' G x := by
  have e := hk.block G h.lt hp
  refine ⟨h.len, fun j hj => ?_, fun j hj => ?_, Nat.lt_of_lt_of_le h.lt hk.size⟩
  · rw [← h.at_ j hj]; simp only [World.cell?, e]
  · rw [← h.fz j hj]; simp only [World.frozen?, e]

/-- what put tells -/
def errI (bs : List Blb) (b : Blb) : Int := (Wk.into (pl bs) b.p).2.2

def idI (bs : List Blb) (b : Blb) : List UInt8 := if errI bs b = 0 then Pk.bid b.p else List.replicate 8 0

/-- what is told behind it -/
def more (bs : List Blb) (b : Blb) : List Blb := if errI bs b = 0 ∧ Pk.bid b.p ∉ (mpB bs).map (·.1) then bs ++ [b] else bs

def newI (bs : List Blb) (b : Blb) : Bool := decide (errI bs b = 0 ∧ Pk.bid b.p ∉ (mpB bs).map (·.1))

theorem idI_length (bs : List Blb) (b : Blb) : (idI bs b).length = 8 := by
  unfold idI; split
  · exact Pk.bid_length _
  · simp

theorem more_pl {bs : List Blb} {b : Blb} (h : errI bs b = 0) : Wk.into (pl bs) b.p = (pl (more bs b), Pk.bid b.p, 0) := by
  unfold errI at h
  unfold more
  have h' : errI bs b = 0 := h
  unfold Wk.into at h ⊢
  split
  · rename_i q
    rw [if_pos q] at h
    exact absurd h q
  rename_i q
  rw [if_neg q] at h
  rcases find_bid bs (Pk.bid b.p) with ⟨h1, h2⟩ | ⟨o, ho, h1, h2⟩
  · rw [h1]
    dsimp only
    rw [if_pos ⟨h', h2⟩, pl_snoc]
  · rw [h1] at h ⊢
    dsimp only at h ⊢
    have hin : ¬ (errI bs b = 0 ∧ Pk.bid b.p ∉ (mpB bs).map (·.1)) := fun q => q.2 (List.mem_map_of_mem (f := (·.1)) h2)
    by_cases e : o.p = b.p
    · rw [if_pos e, if_neg hin]
    · rw [if_neg e] at h; cases h

theorem more_bad {bs : List Blb} {b : Blb} (h : errI bs b ≠ 0) : more bs b = bs := by
  unfold more; rw [if_neg (fun q => h q.1)]

/-- what was new is told, and so it grows by one at most -/
theorem more_length (bs : List Blb) (b : Blb) : (more bs b).length ≤ bs.length + 1 := by
  unfold more; split
  · simp
  · omega

set_option maxHeartbeats 2000000 in
theorem hput_any (m n : Nat) (bs : List Blb) (b : Blb) (w : World) (h : Mp w m n (mpB bs)) (hn : n < 1000000000) (hb : b.bytes.size ≤ 9223372036854775807) :
    Calls Tryz.prog 56 #[.map (some m), blV b] w fun e w' => e = .returned (.tuple #[idV (idI bs b), .bool (newI bs b), .int .i64 (errI bs b)]) ∧ (∃ n', n' ≤ n + 1 ∧ Mp w' m n' (mpB (more bs b))) ∧ Kept (fun k => k ≠ m) w w' := by
  unfold blV
  obtain ⟨W2, hW2⟩ : ∃ W2, W2 = (w.alloc (.cells #[.int .i64 b.kind, .string b.bytes] 37)).alloc (.cells Z8 29) := ⟨_, rfl⟩
  have hX : I8 W2 (w.heap.size + 1) (List.replicate 8 0) := by
    rw [hW2]
    have := I8.new (w.alloc (.cells #[.int .i64 b.kind, .string b.bytes] 37)) 29
    rwa [World.size_alloc] at this
  have hB2 : Below w.heap.size w W2 := by rw [hW2]; exact ((Below.refl _ w).alloc (Nat.le_refl _) _).alloc (by simp) _
  have hS2 : W2.heap.size = w.heap.size + 2 := by rw [hW2]; simp
  have c0 : W2.cell? ⟨w.heap.size, 0, none⟩ = some (.int .i64 b.kind) := by rw [hW2]; simp
  have c1 : W2.cell? ⟨w.heap.size, 1, none⟩ = some (.string b.bytes) := by rw [hW2]; simp
  have hid := pid_any b W2 hb
  dsimp only [Z8] at hW2
  have hmlt : m < w.heap.size := h.lt
  obtain ⟨b0, b1, b2, b3, b4, b5, b6, b7, hL⟩ := eight _ (idOr_length b)
  have hid' : Calls Tryz.prog 20 #[.agg #[.int .i64 b.kind, .string b.bytes]] W2 fun e w' => e = .returned (.tuple #[.agg #[.int .u8 (b0.toNat : Int), .int .u8 (b1.toNat : Int), .int .u8 (b2.toNat : Int), .int .u8 (b3.toNat : Int), .int .u8 (b4.toNat : Int), .int .u8 (b5.toNat : Int), .int .u8 (b6.toNat : Int), .int .u8 (b7.toNat : Int)], .int .i64 (Pk.bErr b.p)]) ∧ Below W2.heap.size W2 w' := by
    rw [hL] at hid
    exact hid
  clear hid
  by_cases hE : Pk.bErr b.p = 0
  case neg =>
    have e1 : errI bs b = Pk.bErr b.p := by unfold errI Wk.into; rw [if_pos hE]
    have HN : Hid (newI bs b = false) := by show _ = _; unfold newI; exact decide_eq_false fun q => hE (by rw [← e1]; exact q.1)
    have HM : Hid (more bs b = bs) := more_bad (by rw [e1]; exact hE)
    have HI : Hid (idI bs b = List.replicate 8 0) := by show _ = _; unfold idI; rw [if_neg (by rw [e1]; exact hE)]
    rw [e1, HN.out, HM.out, HI.out]
    have hne : (Pk.bErr b.p != 0) = true := by rw [bne_iff_ne]; exact hE
    generalize Pk.bErr b.p = E at *
    have HMp : Hid (Mp w m n (mpB bs)) := h
    clear h e1 hE hL HN HM HI
    go_enter Tryz.func56, Tryz.ntmps56
    go_wp2_with fail
    rw [← hW2]
    clear hW2
    refine hid'.mono ?_
    rintro e w3 ⟨rfl, hb3⟩
    have hX3 := hX.below hb3 hX.lt
    obtain ⟨f0, f1, f2, f3, f4, f5, f6, f7⟩ := hX3.free
    obtain ⟨e0, e1, e2, e3, e4, e5, e6, e7⟩ := I8.cells (b0 := 0) (b1 := 0) (b2 := 0) (b3 := 0) (b4 := 0) (b5 := 0) (b6 := 0) (b7 := 0) hX3
    have HB3 : Hid (Below w.heap.size w w3) := hB2.trans (hb3.mono (by omega))
    obtain ⟨W4, hW4⟩ : ∃ W4, W4 = set8 w3 (w.heap.size + 1) b0 b1 b2 b3 b4 b5 b6 b7 := ⟨_, rfl⟩
    have HB4 : Hid (Below w.heap.size w W4) := by rw [hW4]; exact below_set8 HB3.out (by omega) _ _ _ _ _ _ _ _
    have hX4 : I8 W4 (w.heap.size + 1) [b0, b1, b2, b3, b4, b5, b6, b7] := by rw [hW4]; exact hX3.store _ _ _ _ _ _ _ _
    unfold set8 at hW4
    simp only [B] at hW4
    obtain ⟨g0, g1, g2, g3, g4, g5, g6, g7⟩ := hX4.free
    obtain ⟨d0, d1, d2, d3, d4, d5, d6, d7⟩ := hX4.cells
    have HB5 : Hid (Below w.heap.size w (set8 W4 (w.heap.size + 1) 0 0 0 0 0 0 0 0)) := below_set8 HB4.out (by omega) _ _ _ _ _ _ _ _
    clear hX hX3 hX4 hb3 hid' c0 c1 hB2
    go_upto_region 3 with fail
    rw [← hW4]
    clear hW4 f0 f1 f2 f3 f4 f5 f6 f7 e0 e1 e2 e3 e4 e5 e6 e7
    go_wp2_with fail
    refine bodyPost_ret (v := .tuple #[.agg #[B 0, B 0, B 0, B 0, B 0, B 0, B 0, B 0], .bool false, .int .i64 E]) ?_ rfl ⟨rfl, ?_, Kept.of_below HB5.out⟩
    · have hres : Tryz.f56.results = #[.cell 4 29, .tmp 5, .tmp 6] := by kernel_rfl
      simp only [results, hres]
      go_simp
      rfl
    · exact ⟨n, by omega, HMp.out.below HB5.out⟩
  case pos =>
    rcases find_bid bs (Pk.bid b.p) with ⟨h1, h2⟩ | ⟨o, ho, h1, h2⟩
    · skip
      have hxe : Pk.bid b.p = [b0, b1, b2, b3, b4, b5, b6, b7] := by rw [← hL, idOr, if_pos hE]
      rw [hE] at hid'
      clear hL
      have hI0 : Wk.into (pl bs) b.p = (pl bs ++ [b.p], Pk.bid b.p, 0) := by unfold Wk.into; rw [if_neg (fun q => q hE), h1]
      have e1 : errI bs b = 0 := by unfold errI; rw [hI0]
      have HN : Hid (newI bs b = true) := by show _ = _; unfold newI; exact decide_eq_true ⟨e1, h2⟩
      have HM : Hid (more bs b = bs ++ [b]) := by show _ = _; unfold more; rw [if_pos ⟨e1, h2⟩]
      have HI : Hid (idI bs b = [b0, b1, b2, b3, b4, b5, b6, b7]) := by show _ = _; unfold idI; rw [if_pos e1, hxe]
      rw [e1, HN.out, HM.out, HI.out]
      rw [hxe] at h1 h2
      clear e1 hE hI0 h1
      go_enter Tryz.func56, Tryz.ntmps56
      go_wp2_with fail
      rw [← hW2]
      clear hW2
      refine hid'.mono ?_
      rintro e w3 ⟨rfl, hb3⟩
      have hX3 := hX.below hb3 hX.lt
      have k0 := (hb3.cell (p := ⟨w.heap.size, 0, none⟩) (by show w.heap.size < W2.heap.size; omega)).trans c0
      have k1 := (hb3.cell (p := ⟨w.heap.size, 1, none⟩) (by show w.heap.size < W2.heap.size; omega)).trans c1
      obtain ⟨f0, f1, f2, f3, f4, f5, f6, f7⟩ := hX3.free
      obtain ⟨e0, e1, e2, e3, e4, e5, e6, e7⟩ := I8.cells (b0 := 0) (b1 := 0) (b2 := 0) (b3 := 0) (b4 := 0) (b5 := 0) (b6 := 0) (b7 := 0) hX3
      have HB3 : Hid (Below w.heap.size w w3) := hB2.trans (hb3.mono (by omega))
      obtain ⟨W4, hW4⟩ : ∃ W4, W4 = set8 w3 (w.heap.size + 1) b0 b1 b2 b3 b4 b5 b6 b7 := ⟨_, rfl⟩
      have HB4 : Hid (Below w.heap.size w W4) := by rw [hW4]; exact below_set8 HB3.out (by omega) _ _ _ _ _ _ _ _
      have hB34 : Below (w.heap.size + 1) w3 W4 := by rw [hW4]; exact below_set8 (Below.refl _ _) (Nat.le_refl _) _ _ _ _ _ _ _ _
      have l0 := (hB34.cell (p := ⟨w.heap.size, 0, none⟩) (by show w.heap.size < w.heap.size + 1; omega)).trans k0
      have l1 := (hB34.cell (p := ⟨w.heap.size, 1, none⟩) (by show w.heap.size < w.heap.size + 1; omega)).trans k1
      have hX4 : I8 W4 (w.heap.size + 1) [b0, b1, b2, b3, b4, b5, b6, b7] := by rw [hW4]; exact hX3.store _ _ _ _ _ _ _ _
      unfold set8 at hW4
      simp only [B] at hW4
      obtain ⟨g0, g1, g2, g3, g4, g5, g6, g7⟩ := hX4.free
      obtain ⟨d0, d1, d2, d3, d4, d5, d6, d7⟩ := hX4.cells
      have hm4 : Mp W4 m n (mpB bs) := h.below HB4.out
      have hs4 : w.heap.size ≤ W4.heap.size := HB4.out.size
      clear hX hX3 hb3 hid' c0 c1 hB2 k0 k1 hB34
      go_upto_region 4 with fail
      rw [← hW4]
      clear hW4 f0 f1 f2 f3 f4 f5 f6 f7 e0 e1 e2 e3 e4 e5 e6 e7
      have hlook : (Instr.lookup 57 (.map (some m)) (.agg #[.int .u8 (b0.toNat : Int), .int .u8 (b1.toNat : Int), .int .u8 (b2.toNat : Int), .int .u8 (b3.toNat : Int), .int .u8 (b4.toNat : Int), .int .u8 (b5.toNat : Int), .int .u8 (b6.toNat : Int), .int .u8 (b7.toNat : Int)]) true).run Tryz.prog W4 = .ok (.tuple #[.agg #[.int .i64 0, .string ⟨#[]⟩], .bool false]) W4 := hm4.miss under_heap (zero_blb _) (x := [b0, b1, b2, b3, b4, b5, b6, b7]) rfl h2
      obtain ⟨W5, hW5⟩ : ∃ W5, W5 = W4.alloc (.cells #[.int .i64 0, .string ⟨#[]⟩] 37) := ⟨_, rfl⟩
      have hB45 : Below W4.heap.size W4 W5 := by rw [hW5]; exact (Below.refl _ W4).alloc (Nat.le_refl _) _
      have HB5 : Hid (Below w.heap.size w W5) := HB4.out.trans (hB45.mono hs4)
      have hX5 := hX4.below hB45 hX4.lt
      have hm5 := hm4.below hB45
      have hwl : w.heap.size < W4.heap.size := by have := hX4.lt; omega
      have p0 := (hB45.cell (p := ⟨w.heap.size, 0, none⟩) hwl).trans l0
      have p1 := (hB45.cell (p := ⟨w.heap.size, 1, none⟩) hwl).trans l1
      have q0 : W5.cell? ⟨W4.heap.size, 0, none⟩ = some (.int .i64 0) := by rw [hW5]; simp
      have q1 : W5.cell? ⟨W4.heap.size, 1, none⟩ = some (.string ⟨#[]⟩) := by rw [hW5]; simp
      obtain ⟨r0, r1, r2, r3, r4, r5, r6, r7⟩ := hX5.cells
      obtain ⟨s0, s1, s2, s3, s4, s5, s6, s7⟩ := hX5.free
      obtain ⟨w6, hput, hm6, hg6⟩ := hm5.set under_heap (x := [b0, b1, b2, b3, b4, b5, b6, b7]) rfl hn (blV b) (l' := mpB (bs ++ [b])) (.inl ⟨h2, by rw [mpB_snoc, hxe]⟩)
      have hput' : (Instr.mapUpdate 57 (.map (some m)) (.agg #[.int .u8 (b0.toNat : Int), .int .u8 (b1.toNat : Int), .int .u8 (b2.toNat : Int), .int .u8 (b3.toNat : Int), .int .u8 (b4.toNat : Int), .int .u8 (b5.toNat : Int), .int .u8 (b6.toNat : Int), .int .u8 (b7.toNat : Int)]) (.agg #[.int .i64 b.kind, .string b.bytes])).run Tryz.prog W5 = .ok () w6 := hput
      have hK6 : Kept (fun k => k ≠ m) W5 w6 := Kept.grown (p := fun q => q ≠ m) (Kept.refl _ _) hg6 (fun q hq hp => hp (Option.some.inj hq).symm)
      have hX6 := hX5.kept hK6 (show w.heap.size + 1 ≠ m by omega)
      obtain ⟨t0, t1, t2, t3, t4, t5, t6, t7⟩ := hX6.cells
      obtain ⟨u0, u1, u2, u3, u4, u5, u6, u7⟩ := hX6.free
      have hB7 : Below (w.heap.size + 1) w6 (set8 w6 (w.heap.size + 1) b0 b1 b2 b3 b4 b5 b6 b7) := below_set8 (Below.refl _ _) (Nat.le_refl _) _ _ _ _ _ _ _ _
      have hK56 : Kept (fun k => k ≠ m) w w6 := (Kept.of_below HB5.out).trans hK6
      have HK7 : Hid (Kept (fun k => k ≠ m) w (set8 w6 (w.heap.size + 1) b0 b1 b2 b3 b4 b5 b6 b7)) :=
        ⟨hB7.os.trans hK56.os, hB7.tape.trans hK56.tape, hB7.output.trans hK56.output, Nat.le_trans hK56.size hB7.size, fun k hk hp => (hB7.block k (by omega)).trans (hK56.block k hk hp)⟩
      have HM7 : Hid (Mp (set8 w6 (w.heap.size + 1) b0 b1 b2 b3 b4 b5 b6 b7) m (n + 1) (mpB (bs ++ [b]))) := hm6.obj fun es c ho => (hB7.block m (by omega)).trans ho
      clear hput hm6 hg6 hK6 hX6 hB7 hK56 hX5 hX4 hm5 hm4 hB45 HB4
      go_upto_region 5 with fail
      rw [← hW5]
      clear hW5 hlook d0 d1 d2 d3 d4 d5 d6 d7 g0 g1 g2 g3 g4 g5 g6 g7 l0 l1
      go_wp2_with fail
      refine bodyPost_ret (v := .tuple #[.agg #[B b0, B b1, B b2, B b3, B b4, B b5, B b6, B b7], .bool true, .int .i64 0]) ?_ rfl ⟨rfl, ⟨n + 1, Nat.le_refl _, HM7.out⟩, HK7.out⟩
      have hres : Tryz.f56.results = #[.cell 4 29, .tmp 5, .tmp 6] := by kernel_rfl
      simp only [results, hres]
      go_simp
      exact ⟨rfl, rfl, rfl, rfl, rfl, rfl, rfl, rfl⟩
    · by_cases hop : o.p = b.p
      · obtain rfl := Blb.p_inj hop
        skip
        have hxe : Pk.bid o.p = [b0, b1, b2, b3, b4, b5, b6, b7] := by rw [← hL, idOr, if_pos hE]
        rw [hE] at hid'
        clear hL
        have hI0 : Wk.into (pl bs) o.p = (pl bs, Pk.bid o.p, 0) := by unfold Wk.into; rw [if_neg (fun q => q hE), h1]; dsimp only; rw [if_pos rfl]
        have hin : ¬ (errI bs o = 0 ∧ Pk.bid o.p ∉ (mpB bs).map (·.1)) := fun q => q.2 (List.mem_map_of_mem (f := (·.1)) h2)
        have e1 : errI bs o = 0 := by unfold errI; rw [hI0]
        have HN : Hid (newI bs o = false) := by show _ = _; unfold newI; exact decide_eq_false hin
        have HM : Hid (more bs o = bs) := by show _ = _; unfold more; rw [if_neg hin]
        have HI : Hid (idI bs o = [b0, b1, b2, b3, b4, b5, b6, b7]) := by show _ = _; unfold idI; rw [if_pos e1, hxe]
        rw [e1, HN.out, HM.out, HI.out]
        rw [hxe] at h1 h2
        have hcmp := fun W => bl_cmp W o o
        rw [blSame_self] at hcmp
        clear e1 hE hI0 h1 hin
        go_enter Tryz.func56, Tryz.ntmps56
        go_wp2_with fail
        rw [← hW2]
        clear hW2
        refine hid'.mono ?_
        rintro e w3 ⟨rfl, hb3⟩
        have hX3 := hX.below hb3 hX.lt
        have k0 := (hb3.cell (p := ⟨w.heap.size, 0, none⟩) (by show w.heap.size < W2.heap.size; omega)).trans c0
        have k1 := (hb3.cell (p := ⟨w.heap.size, 1, none⟩) (by show w.heap.size < W2.heap.size; omega)).trans c1
        obtain ⟨f0, f1, f2, f3, f4, f5, f6, f7⟩ := hX3.free
        obtain ⟨e0, e1, e2, e3, e4, e5, e6, e7⟩ := I8.cells (b0 := 0) (b1 := 0) (b2 := 0) (b3 := 0) (b4 := 0) (b5 := 0) (b6 := 0) (b7 := 0) hX3
        have HB3 : Hid (Below w.heap.size w w3) := hB2.trans (hb3.mono (by omega))
        obtain ⟨W4, hW4⟩ : ∃ W4, W4 = set8 w3 (w.heap.size + 1) b0 b1 b2 b3 b4 b5 b6 b7 := ⟨_, rfl⟩
        have HB4 : Hid (Below w.heap.size w W4) := by rw [hW4]; exact below_set8 HB3.out (by omega) _ _ _ _ _ _ _ _
        have hB34 : Below (w.heap.size + 1) w3 W4 := by rw [hW4]; exact below_set8 (Below.refl _ _) (Nat.le_refl _) _ _ _ _ _ _ _ _
        have l0 := (hB34.cell (p := ⟨w.heap.size, 0, none⟩) (by show w.heap.size < w.heap.size + 1; omega)).trans k0
        have l1 := (hB34.cell (p := ⟨w.heap.size, 1, none⟩) (by show w.heap.size < w.heap.size + 1; omega)).trans k1
        have hX4 : I8 W4 (w.heap.size + 1) [b0, b1, b2, b3, b4, b5, b6, b7] := by rw [hW4]; exact hX3.store _ _ _ _ _ _ _ _
        unfold set8 at hW4
        simp only [B] at hW4
        obtain ⟨g0, g1, g2, g3, g4, g5, g6, g7⟩ := hX4.free
        obtain ⟨d0, d1, d2, d3, d4, d5, d6, d7⟩ := hX4.cells
        have hm4 : Mp W4 m n (mpB bs) := h.below HB4.out
        have hs4 : w.heap.size ≤ W4.heap.size := HB4.out.size
        clear hX hX3 hb3 hid' c0 c1 hB2 k0 k1 hB34
        go_upto_region 4 with fail
        rw [← hW4]
        clear hW4 f0 f1 f2 f3 f4 f5 f6 f7 e0 e1 e2 e3 e4 e5 e6 e7
        have hlook : (Instr.lookup 57 (.map (some m)) (.agg #[.int .u8 (b0.toNat : Int), .int .u8 (b1.toNat : Int), .int .u8 (b2.toNat : Int), .int .u8 (b3.toNat : Int), .int .u8 (b4.toNat : Int), .int .u8 (b5.toNat : Int), .int .u8 (b6.toNat : Int), .int .u8 (b7.toNat : Int)]) true).run Tryz.prog W4 = .ok (.tuple #[.agg #[.int .i64 o.kind, .string o.bytes], .bool true]) W4 := hm4.hit under_heap (zero_blb _) h2
        obtain ⟨W5, hW5⟩ : ∃ W5, W5 = W4.alloc (.cells #[.int .i64 o.kind, .string o.bytes] 37) := ⟨_, rfl⟩
        have hB45 : Below W4.heap.size W4 W5 := by rw [hW5]; exact (Below.refl _ W4).alloc (Nat.le_refl _) _
        have HB5 : Hid (Below w.heap.size w W5) := HB4.out.trans (hB45.mono hs4)
        have hX5 := hX4.below hB45 hX4.lt
        have hm5 := hm4.below hB45
        have hwl : w.heap.size < W4.heap.size := by have := hX4.lt; omega
        have p0 := (hB45.cell (p := ⟨w.heap.size, 0, none⟩) hwl).trans l0
        have p1 := (hB45.cell (p := ⟨w.heap.size, 1, none⟩) hwl).trans l1
        have q0 : W5.cell? ⟨W4.heap.size, 0, none⟩ = some (.int .i64 o.kind) := by rw [hW5]; simp
        have q1 : W5.cell? ⟨W4.heap.size, 1, none⟩ = some (.string o.bytes) := by rw [hW5]; simp
        obtain ⟨r0, r1, r2, r3, r4, r5, r6, r7⟩ := hX5.cells
        obtain ⟨s0, s1, s2, s3, s4, s5, s6, s7⟩ := hX5.free
        obtain ⟨w6, hput, hm6, hg6⟩ := hm5.set under_heap (x := [b0, b1, b2, b3, b4, b5, b6, b7]) rfl hn (blV o) (l' := mpB (bs)) (.inr ⟨h2, rfl⟩)
        have hput' : (Instr.mapUpdate 57 (.map (some m)) (.agg #[.int .u8 (b0.toNat : Int), .int .u8 (b1.toNat : Int), .int .u8 (b2.toNat : Int), .int .u8 (b3.toNat : Int), .int .u8 (b4.toNat : Int), .int .u8 (b5.toNat : Int), .int .u8 (b6.toNat : Int), .int .u8 (b7.toNat : Int)]) (.agg #[.int .i64 o.kind, .string o.bytes])).run Tryz.prog W5 = .ok () w6 := hput
        have hK6 : Kept (fun k => k ≠ m) W5 w6 := Kept.grown (p := fun q => q ≠ m) (Kept.refl _ _) hg6 (fun q hq hp => hp (Option.some.inj hq).symm)
        have hX6 := hX5.kept hK6 (show w.heap.size + 1 ≠ m by omega)
        obtain ⟨t0, t1, t2, t3, t4, t5, t6, t7⟩ := hX6.cells
        obtain ⟨u0, u1, u2, u3, u4, u5, u6, u7⟩ := hX6.free
        have hB7 : Below (w.heap.size + 1) w6 (set8 w6 (w.heap.size + 1) b0 b1 b2 b3 b4 b5 b6 b7) := below_set8 (Below.refl _ _) (Nat.le_refl _) _ _ _ _ _ _ _ _
        have hK56 : Kept (fun k => k ≠ m) w w6 := (Kept.of_below HB5.out).trans hK6
        have HK7 : Hid (Kept (fun k => k ≠ m) w (set8 w6 (w.heap.size + 1) b0 b1 b2 b3 b4 b5 b6 b7)) :=
          ⟨hB7.os.trans hK56.os, hB7.tape.trans hK56.tape, hB7.output.trans hK56.output, Nat.le_trans hK56.size hB7.size, fun k hk hp => (hB7.block k (by omega)).trans (hK56.block k hk hp)⟩
        have HM7 : Hid (Mp (set8 w6 (w.heap.size + 1) b0 b1 b2 b3 b4 b5 b6 b7) m (n + 1) (mpB (bs))) := hm6.obj fun es c ho => (hB7.block m (by omega)).trans ho
        clear hput hm6 hg6 hK6 hX6 hB7 hK56 hX5 hX4 hm5 hm4 hB45 HB4
        go_upto_region 5 with fail
        rw [← hW5]
        clear hW5 hlook d0 d1 d2 d3 d4 d5 d6 d7 g0 g1 g2 g3 g4 g5 g6 g7 l0 l1
        go_wp2_with fail
        refine bodyPost_ret (v := .tuple #[.agg #[B b0, B b1, B b2, B b3, B b4, B b5, B b6, B b7], .bool false, .int .i64 0]) ?_ rfl ⟨rfl, ⟨n + 1, Nat.le_refl _, HM7.out⟩, HK7.out⟩
        have hres : Tryz.f56.results = #[.cell 4 29, .tmp 5, .tmp 6] := by kernel_rfl
        simp only [results, hres]
        go_simp
        exact ⟨rfl, rfl, rfl, rfl, rfl, rfl, rfl, rfl⟩
      · skip
        have hxe : Pk.bid b.p = [b0, b1, b2, b3, b4, b5, b6, b7] := by rw [← hL, idOr, if_pos hE]
        rw [hE] at hid'
        clear hL
        have hI0 : Wk.into (pl bs) b.p = (pl bs, Pk.bid b.p, 11) := by unfold Wk.into; rw [if_neg (fun q => q hE), h1]; dsimp only; rw [if_neg hop]
        have e1 : errI bs b = 11 := by unfold errI; rw [hI0]
        have HN : Hid (newI bs b = false) := by show _ = _; unfold newI; exact decide_eq_false fun q => by have := q.1; omega
        have HM : Hid (more bs b = bs) := more_bad (by omega)
        have HI : Hid (idI bs b = List.replicate 8 0) := by show _ = _; unfold idI; rw [if_neg (by omega)]
        rw [e1, HN.out, HM.out, HI.out]
        rw [hxe] at h1 h2
        have hcmp := fun W => bl_cmp W o b
        rw [show blSame o b = false from by rw [Bool.eq_false_iff]; intro q; exact hop (by rw [blSame_iff.1 q])] at hcmp
        clear e1 hE hI0 h1 hop
        go_enter Tryz.func56, Tryz.ntmps56
        go_wp2_with fail
        rw [← hW2]
        clear hW2
        refine hid'.mono ?_
        rintro e w3 ⟨rfl, hb3⟩
        have hX3 := hX.below hb3 hX.lt
        have k0 := (hb3.cell (p := ⟨w.heap.size, 0, none⟩) (by show w.heap.size < W2.heap.size; omega)).trans c0
        have k1 := (hb3.cell (p := ⟨w.heap.size, 1, none⟩) (by show w.heap.size < W2.heap.size; omega)).trans c1
        obtain ⟨f0, f1, f2, f3, f4, f5, f6, f7⟩ := hX3.free
        obtain ⟨e0, e1, e2, e3, e4, e5, e6, e7⟩ := I8.cells (b0 := 0) (b1 := 0) (b2 := 0) (b3 := 0) (b4 := 0) (b5 := 0) (b6 := 0) (b7 := 0) hX3
        have HB3 : Hid (Below w.heap.size w w3) := hB2.trans (hb3.mono (by omega))
        obtain ⟨W4, hW4⟩ : ∃ W4, W4 = set8 w3 (w.heap.size + 1) b0 b1 b2 b3 b4 b5 b6 b7 := ⟨_, rfl⟩
        have HB4 : Hid (Below w.heap.size w W4) := by rw [hW4]; exact below_set8 HB3.out (by omega) _ _ _ _ _ _ _ _
        have hB34 : Below (w.heap.size + 1) w3 W4 := by rw [hW4]; exact below_set8 (Below.refl _ _) (Nat.le_refl _) _ _ _ _ _ _ _ _
        have l0 := (hB34.cell (p := ⟨w.heap.size, 0, none⟩) (by show w.heap.size < w.heap.size + 1; omega)).trans k0
        have l1 := (hB34.cell (p := ⟨w.heap.size, 1, none⟩) (by show w.heap.size < w.heap.size + 1; omega)).trans k1
        have hX4 : I8 W4 (w.heap.size + 1) [b0, b1, b2, b3, b4, b5, b6, b7] := by rw [hW4]; exact hX3.store _ _ _ _ _ _ _ _
        unfold set8 at hW4
        simp only [B] at hW4
        obtain ⟨g0, g1, g2, g3, g4, g5, g6, g7⟩ := hX4.free
        obtain ⟨d0, d1, d2, d3, d4, d5, d6, d7⟩ := hX4.cells
        have hm4 : Mp W4 m n (mpB bs) := h.below HB4.out
        have hs4 : w.heap.size ≤ W4.heap.size := HB4.out.size
        clear hX hX3 hb3 hid' c0 c1 hB2 k0 k1 hB34
        go_upto_region 4 with fail
        rw [← hW4]
        clear hW4 f0 f1 f2 f3 f4 f5 f6 f7 e0 e1 e2 e3 e4 e5 e6 e7
        have hlook : (Instr.lookup 57 (.map (some m)) (.agg #[.int .u8 (b0.toNat : Int), .int .u8 (b1.toNat : Int), .int .u8 (b2.toNat : Int), .int .u8 (b3.toNat : Int), .int .u8 (b4.toNat : Int), .int .u8 (b5.toNat : Int), .int .u8 (b6.toNat : Int), .int .u8 (b7.toNat : Int)]) true).run Tryz.prog W4 = .ok (.tuple #[.agg #[.int .i64 o.kind, .string o.bytes], .bool true]) W4 := hm4.hit under_heap (zero_blb _) h2
        obtain ⟨W5, hW5⟩ : ∃ W5, W5 = W4.alloc (.cells #[.int .i64 o.kind, .string o.bytes] 37) := ⟨_, rfl⟩
        have hB45 : Below W4.heap.size W4 W5 := by rw [hW5]; exact (Below.refl _ W4).alloc (Nat.le_refl _) _
        have HB5 : Hid (Below w.heap.size w W5) := HB4.out.trans (hB45.mono hs4)
        have hX5 := hX4.below hB45 hX4.lt
        have hm5 := hm4.below hB45
        have hwl : w.heap.size < W4.heap.size := by have := hX4.lt; omega
        have p0 := (hB45.cell (p := ⟨w.heap.size, 0, none⟩) hwl).trans l0
        have p1 := (hB45.cell (p := ⟨w.heap.size, 1, none⟩) hwl).trans l1
        have q0 : W5.cell? ⟨W4.heap.size, 0, none⟩ = some (.int .i64 o.kind) := by rw [hW5]; simp
        have q1 : W5.cell? ⟨W4.heap.size, 1, none⟩ = some (.string o.bytes) := by rw [hW5]; simp
        obtain ⟨r0, r1, r2, r3, r4, r5, r6, r7⟩ := hX5.cells
        obtain ⟨s0, s1, s2, s3, s4, s5, s6, s7⟩ := hX5.free
        have HB9 : Hid (Below w.heap.size w (set8 W5 (w.heap.size + 1) 0 0 0 0 0 0 0 0)) := below_set8 HB5.out (by omega) _ _ _ _ _ _ _ _
        have HM9 : Hid (∃ n', n' ≤ n + 1 ∧ Mp (set8 W5 (w.heap.size + 1) 0 0 0 0 0 0 0 0) m n' (mpB bs)) := ⟨n, by omega, h.below HB9.out⟩
        clear hX5 hX4 hm5 hm4 hB45 h
        go_upto_region 5 with fail
        rw [← hW5]
        clear hW5 hlook d0 d1 d2 d3 d4 d5 d6 d7 g0 g1 g2 g3 g4 g5 g6 g7 l0 l1
        go_wp2_with fail
        refine bodyPost_ret (v := .tuple #[.agg #[B 0, B 0, B 0, B 0, B 0, B 0, B 0, B 0], .bool false, .int .i64 11]) ?_ rfl ⟨rfl, HM9.out, Kept.of_below HB9.out⟩
        have hres : Tryz.f56.results = #[.cell 4 29, .tmp 5, .tmp 6] := by kernel_rfl
        simp only [results, hres]
        go_simp
        rfl

end Go.Proofs.YtimdioacmojkeaaGreatDoor

namespace Go.Proofs.YtimdioacmojkeaaGreatDoor
open Go.RowKit

/-- an item as it is handed in -/
structure Im where
  path : ByteArray
  kind : Int
  mode : Int
  time : Int
  bytes : ByteArray

def Im.it (x : Im) : Wk.It := ⟨x.path.data.toList, x.kind, x.mode, x.time, x.bytes.data.toList⟩

def its (l : List Im) : List Wk.It := l.map Im.it

theorem its_length (l : List Im) : (its l).length = l.length := List.length_map _

theorem Im.it_inj {a b : Im} (h : a.it = b.it) : a = b := by
  obtain ⟨⟨⟨p⟩⟩, k, m, t, ⟨⟨s⟩⟩⟩ := a
  obtain ⟨⟨⟨p'⟩⟩, k', m', t', ⟨⟨s'⟩⟩⟩ := b
  simp only [Im.it, Wk.It.mk.injEq] at h
  obtain ⟨rfl, rfl, rfl, rfl, rfl⟩ := h
  rfl

theorem its_inj {a b : List Im} (h : its a = its b) : a = b := (List.map_inj_right fun _ _ => Im.it_inj).1 h

/-- an item's cells -/
abbrev imC (x : Im) : List Value := [.string x.path, .int .i64 x.kind, .int .i64 x.mode, .int .i64 x.time, .string x.bytes]

abbrev imV (x : Im) : Value := .agg #[.string x.path, .int .i64 x.kind, .int .i64 x.mode, .int .i64 x.time, .string x.bytes]

theorem imC_length (x : Im) : (imC x).length = 5 := rfl

theorem imC_one (x : Im) : ∀ u ∈ imC x, u.oneCell' = true := by
  intro u hu
  simp [imC] at hu
  rcases hu with rfl | rfl | rfl | rfl | rfl <;> rfl

/-- what is sure of an item that comes in, or is made -/
structure Im.Ok (x : Im) : Prop where
  path : x.path.size ≤ 140737488351232
  bytes : x.bytes.size ≤ 140737488351232
  time : (Lit.int .i64 x.time).wf = true

theorem Im.Ok.time2 {x : Im} (h : x.Ok) : -9223372036854775808 ≤ x.it.time ∧ x.it.time ≤ 9223372036854775807 := by
  have ht := h.time
  simp [Lit.wf, IntKind.min, IntKind.max, IntKind.signed, IntKind.bits] at ht
  exact ht

abbrev Ims (w : World) (v : Value) (l : List Im) : Prop := Rx 5 imC w v l

theorem Rx.item {w : World} {a : Option Addr} {n c : Nat} {l : List Im} (h : Ims w (.slice a n c) l) (j : Nat) (t : Im) (hj : l[j]? = some t) : ∃ bk o, a = some ⟨bk, o, none⟩ ∧ bk < w.heap.size ∧
    w.cell? ⟨bk, o + j * 5, none⟩ = some (.string t.path) ∧ w.cell? ⟨bk, o + j * 5 + 1, none⟩ = some (.int .i64 t.kind) ∧ w.cell? ⟨bk, o + j * 5 + 2, none⟩ = some (.int .i64 t.mode) ∧
    w.cell? ⟨bk, o + j * 5 + 3, none⟩ = some (.int .i64 t.time) ∧ w.cell? ⟨bk, o + j * 5 + 4, none⟩ = some (.string t.bytes) := by
  obtain ⟨bk, o, h1, h2, h3⟩ := h.get j t hj
  exact ⟨bk, o, h1, h2, h3 0 _ rfl, h3 1 _ rfl, h3 2 _ rfl, h3 3 _ rfl, h3 4 _ rfl⟩

/-- five cells in a block of their own -/
theorem five_at {w : World} {b : Nat} {t : TypeId} {fr : Nat × Nat} {v0 v1 v2 v3 v4 : Value} (h : w.heap[b]? = some (.cells #[v0, v1, v2, v3, v4] t fr)) :
    w.cell? ⟨b, 0, none⟩ = some v0 ∧ w.cell? ⟨b, 1, none⟩ = some v1 ∧ w.cell? ⟨b, 2, none⟩ = some v2 ∧ w.cell? ⟨b, 3, none⟩ = some v3 ∧ w.cell? ⟨b, 4, none⟩ = some v4 ∧ b < w.heap.size := by
  refine ⟨?_, ?_, ?_, ?_, ?_, (Array.getElem?_eq_some_iff.1 h).1⟩ <;> simp [World.cell?, h]

end Go.Proofs.YtimdioacmojkeaaGreatDoor

namespace Go.Proofs.YtimdioacmojkeaaGreatDoor
open Go.RowKit

/-- every block that was there is as it was, but those of one type -/
structure Kt (T : TypeId) (A B : World) : Prop where
  os : B.os = A.os
  tape : B.tape = A.tape
  output : B.output = A.output
  size : A.heap.size ≤ B.heap.size
  obj : ∀ (k : Nat) (o : Obj), A.heap[k]? = some o → (¬ ∃ cur fr, o = .cells cur T fr) → B.heap[k]? = some o

section
variable {T T' : TypeId} {A B C : World}
theorem Kt.refl (T : TypeId) (A : World) : Kt T A A := ⟨rfl, rfl, rfl, Nat.le_refl _, fun _ _ h _ => h⟩

theorem Kt.trans (h : Kt T A B) (k : Kt T B C) : Kt T A C :=
  ⟨k.os.trans h.os, k.tape.trans h.tape, k.output.trans h.output, Nat.le_trans h.size k.size, fun i _ ho hn => k.obj i _ (h.obj i _ ho hn) hn⟩

theorem Kt.of_below (h : Below A.heap.size A B) : Kt T A B := ⟨h.os, h.tape, h.output, h.size, fun k _ ho _ => (h.block k (Array.getElem?_eq_some_iff.1 ho).1).trans ho⟩

theorem Kt.of_grown {row : Option Nat} (h : A.grownBy B row) (hr : ∀ g, row = some g → ∃ cur fr, A.heap[g]? = some (.cells cur T fr)) : Kt T A B :=
  ⟨h.os, h.tape, h.output, h.size, fun k _ ho hn => (h.block k (Array.getElem?_eq_some_iff.1 ho).1 (fun e => by
    obtain ⟨cur, fr, hc⟩ := hr k e.symm
    rw [hc] at ho
    cases ho
    exact hn ⟨_, _, rfl⟩)).trans ho⟩

theorem Kt.alloc (h : Kt T A B) (o : Obj) : Kt T A (B.alloc o) := h.trans (Kt.of_below ((Below.refl _ B).alloc (Nat.le_refl _) o))

theorem Kt.drew (h : Kt T A B) : Kt T A B.drew := ⟨h.os, h.tape, h.output, h.size, h.obj⟩

theorem Kt.set {g : Nat} {cur : Array Value} {fr : Nat × Nat} (h : B.heap[g]? = some (.cells cur T fr)) (j : Nat) (x : Value) : Kt T B (B.setCell ⟨g, j, none⟩ x) :=
  ⟨rfl, rfl, rfl, by simp [World.setCell], fun k _ ho hn => (Below.heap_setCell _ _ _ _ (fun e => by
    have e : k = g := e
    subst e
    rw [h] at ho
    cases ho
    exact hn ⟨_, _, rfl⟩)).trans ho⟩

theorem Kt.cell (h : Kt T A B) {k : Nat} {cur : Array Value} {fr : Nat × Nat} (ho : A.heap[k]? = some (.cells cur T' fr)) (hne : T' ≠ T) : B.heap[k]? = some (.cells cur T' fr) :=
  h.obj k _ ho (fun ⟨_, _, e⟩ => by cases e; exact hne rfl)

end

/-- things of k cells each, whose cells are as R says -/
structure Ry {α : Type} (k : Nat) (T : TypeId) (R : World → α → List Value → Prop) (w : World) (v : Value) (l : List α) : Prop where
  at_ : ((∃ a c, v = .slice a 0 c) ∧ l = []) ∨ ∃ bk o cap, v = .slice (some ⟨bk, o, none⟩) l.length cap ∧ l.length ≤ cap ∧ (∃ cur fr, w.heap[bk]? = some (.cells cur T fr)) ∧
    ∀ j t, l[j]? = some t → ∃ c : List Value, c.length = k ∧ R w t c ∧ ∀ r u, c[r]? = some u → w.cell? ⟨bk, o + j * k + r, none⟩ = some u

section
variable {α : Type} {k : Nat} {T : TypeId} {R : World → α → List Value → Prop} {w W : World} {v : Value} {l : List α}
theorem Ry.nil (a : Option Addr) (c : Nat) : Ry k T R w (.slice a 0 c) [] := ⟨.inl ⟨⟨_, _, rfl⟩, rfl⟩⟩

theorem Ry.slice (h : Ry k T R w v l) : ∃ a c, v = .slice a l.length c := by
  rcases h.at_ with ⟨⟨a, c, rfl⟩, rfl⟩ | ⟨bk, o, cap, rfl, _⟩
  · exact ⟨_, _, rfl⟩
  · exact ⟨_, _, rfl⟩

theorem Ry.room {a : Option Addr} {n c : Nat} (h : Ry k T R w (.slice a n c) l) (hn : 0 < l.length) : l.length ≤ c ∧ n = l.length := by
  rcases h.at_ with ⟨_, rfl⟩ | ⟨bk, o, cap, e, h1, _⟩
  · simp at hn
  · cases e; exact ⟨h1, rfl⟩

theorem Ry.obj (h : Ry k T R w v l) (hR : ∀ t c, R w t c → R W t c) (ho : ∀ (g : Nat) cur fr, w.heap[g]? = some (.cells cur T fr) → W.heap[g]? = some (.cells cur T fr)) : Ry k T R W v l := by
  rcases h.at_ with h | ⟨bk, o, cap, h1, h2, ⟨cur, fr, h3⟩, h4⟩
  · exact ⟨.inl h⟩
  · have e := ho bk cur fr h3
    refine ⟨.inr ⟨bk, o, cap, h1, h2, ⟨cur, fr, e⟩, fun j t hj => ?_⟩⟩
    obtain ⟨c, c1, c2, c3⟩ := h4 j t hj
    refine ⟨c, c1, hR t c c2, fun r u hu => ?_⟩
    rw [← c3 r u hu]
    simp only [World.cell?, h3, e]

theorem Ry.kt {T' : TypeId} (h : Ry k T R w v l) (hk : Kt T' w W) (hne : T ≠ T') (hR : ∀ t c, R w t c → R W t c) : Ry k T R W v l := h.obj hR fun _ _ _ ho => hk.cell ho hne

theorem Ry.below (h : Ry k T R w v l) (hb : Below w.heap.size w W) (hR : ∀ t c, R w t c → R W t c) : Ry k T R W v l :=
  h.obj hR fun g _ _ ho => (hb.block g (Array.getElem?_eq_some_iff.1 ho).1).trans ho

theorem Ry.get {a : Option Addr} {n c : Nat} (h : Ry k T R w (.slice a n c) l) (j : Nat) (t : α) (hj : l[j]? = some t) : ∃ bk o cs, a = some ⟨bk, o, none⟩ ∧ bk < w.heap.size ∧ cs.length = k ∧ R w t cs ∧
    ∀ r u, cs[r]? = some u → w.cell? ⟨bk, o + j * k + r, none⟩ = some u := by
  rcases h.at_ with ⟨_, rfl⟩ | ⟨bk, o, cap, h1, h2, ⟨cur, fr, h3⟩, h4⟩
  · simp at hj
  · rw [Value.slice.injEq] at h1
    obtain ⟨rfl, rfl, rfl⟩ := h1
    obtain ⟨cs, c1, c2, c3⟩ := h4 j t hj
    exact ⟨bk, o, cs, rfl, (Array.getElem?_eq_some_iff.1 h3).1, c1, c2, c3⟩

end

/-- a row of one's own of such things -/
def Oy {α : Type} (k : Nat) (T : TypeId) (R : World → α → List Value → Prop) (base : Nat) (w : World) (v : Value) (l : List α) : Prop :=
  ∃ cs : List (List Value), w.ownsRow base T k v l.length cs.flatten ∧ (∀ c ∈ cs, c.length = k) ∧ cs.length = l.length ∧ ∀ (j : Nat) t c, l[j]? = some t → cs[j]? = some c → R w t c

theorem flat_get {k : Nat} : ∀ (cs : List (List Value)), (∀ c ∈ cs, c.length = k) → ∀ (i r : Nat) (c : List Value), cs[i]? = some c → r < k → cs.flatten[i * k + r]? = c[r]?
  | [], _, i, r, c, hi, _ => by simp at hi
  | q :: cs, h, i, r, c, hi, hr => by
    have hq := h q (by simp)
    rw [List.flatten_cons]
    cases i with
    | zero =>
      obtain rfl : q = c := by simpa using hi
      rw [Nat.zero_mul, Nat.zero_add, List.getElem?_append_left (by rw [hq]; exact hr)]
    | succ i =>
      rw [List.getElem?_append_right (by rw [hq, Nat.add_mul, Nat.one_mul]; omega), hq, show (i + 1) * k + r - k = i * k + r from by rw [Nat.add_mul, Nat.one_mul]; omega]
      exact flat_get cs (fun c hc => h c (by simp [hc])) i r c (by simpa using hi) hr

section
variable {α : Type} {k : Nat} {T : TypeId} {R : World → α → List Value → Prop} {base : Nat} {w W : World} {v : Value} {l : List α}
theorem Oy.nil : Oy k T R base w (.slice none 0 0) ([] : List α) := ⟨[], World.ownsRow_nil w _ _ _, by simp, rfl, fun j t c h => by simp at h⟩

theorem Oy.ry (h : Oy k T R base w v l) : Ry k T R w v l := by
  obtain ⟨cs, h1, h2, h3, h4⟩ := h
  rcases h1.2 with ⟨rfl, h0⟩ | ⟨g, cap, cur, rfl, hg, hh, hle, _⟩
  · have : l = [] := List.length_eq_zero_iff.1 h0
    subst this
    exact Ry.nil _ _
  · refine ⟨.inr ⟨g, 0, cap, rfl, hle, ⟨cur, _, hh⟩, fun j t hj => ?_⟩⟩
    have hjl := (List.getElem?_eq_some_iff.1 hj).1
    have hc : cs[j]? = some (cs[j]'(by omega)) := List.getElem?_eq_getElem (by omega)
    generalize cs[j]'(by omega) = c at hc
    have hck := h2 c (List.mem_of_getElem? hc)
    refine ⟨c, hck, h4 j t c hj hc, fun r u hu => ?_⟩
    have hr : r < k := by
      have := (List.getElem?_eq_some_iff.1 hu).1
      omega
    have := World.ownsRow.cells h1 (g := g) rfl (j * k + r) u (by rw [flat_get cs h2 j r c hc hr]; exact hu)
    rw [show (0 : Nat) + j * k + r = j * k + r from by omega]
    rwa [show ((⟨g, 0, none⟩ : Addr).add (j * k + r)) = ⟨g, j * k + r, none⟩ from by unfold Addr.add; split <;> simp_all] at this

theorem Oy.obj (h : Oy k T R base w v l) (hR : ∀ t c, R w t c → R W t c) (ho : ∀ (g : Nat) cur fr, w.heap[g]? = some (.cells cur T fr) → W.heap[g]? = some (.cells cur T fr)) : Oy k T R base W v l := by
  obtain ⟨cs, h1, h2, h3, h4⟩ := h
  refine ⟨cs, ⟨h1.1, ?_⟩, h2, h3, fun j t c a b => hR t c (h4 j t c a b)⟩
  rcases h1.2 with h | ⟨g, cap, cur, hv, hg, hh, r⟩
  · exact .inl h
  · exact .inr ⟨g, cap, cur, hv, hg, ho g _ _ hh, r⟩

theorem Oy.below (h : Oy k T R base w v l) (hb : Below w.heap.size w W) (hR : ∀ t c, R w t c → R W t c) : Oy k T R base W v l :=
  h.obj hR fun g _ _ ho => (hb.block g (Array.getElem?_eq_some_iff.1 ho).1).trans ho

theorem Oy.kt {T' : TypeId} (h : Oy k T R base w v l) (hk : Kt T' w W) (hne : T ≠ T') (hR : ∀ t c, R w t c → R W t c) : Oy k T R base W v l := h.obj hR fun _ _ _ ho => hk.cell ho hne

/-- one more behind it -/
theorem Oy.more {cs : List (List Value)} {c : List Value} {t : α} {v1 : Value} (h2 : ∀ c ∈ cs, c.length = k) (h3 : cs.length = l.length) (h4 : ∀ (j : Nat) t c, l[j]? = some t → cs[j]? = some c → R W t c)
    (h : W.ownsRow base T k v1 (l.length + 1) (cs.flatten ++ c)) (hc : c.length = k) (hR : R W t c) : Oy k T R base W v1 (l ++ [t]) := by
  refine ⟨cs ++ [c], ?_, fun x hx => ?_, by simp [h3], fun j t' c' hj hc' => ?_⟩
  · rw [List.length_append, List.length_singleton, List.flatten_append, List.flatten_singleton]; exact h
  · rcases List.mem_append.1 hx with hx | hx
    · exact h2 x hx
    · rw [List.mem_singleton.1 hx]; exact hc
  · rcases Nat.lt_or_ge j l.length with q | q
    · rw [List.getElem?_append_left q] at hj
      rw [List.getElem?_append_left (by omega)] at hc'
      exact h4 j t' c' hj hc'
    · have hjl := (List.getElem?_eq_some_iff.1 hj).1
      rw [List.length_append, List.length_singleton] at hjl
      obtain rfl : j = l.length := by omega
      rw [List.getElem?_append_right (Nat.le_refl _), Nat.sub_self] at hj
      rw [List.getElem?_append_right (by omega), h3, Nat.sub_self] at hc'
      simp at hj hc'
      subst hj; subst hc'
      exact hR

theorem Oy.own (h : Oy k T R base w v l) {g : Nat} (hg : v.ownBlock = some g) : (∃ cur fr, w.heap[g]? = some (.cells cur T fr)) ∧ base ≤ g := by
  obtain ⟨cs, h1, _⟩ := h
  obtain ⟨cur, a, b, _⟩ := own_block h1 hg
  exact ⟨⟨cur, _, a⟩, b⟩

/-- what an append of one leaves: all but the rows of its type stands -/
theorem Oy.grown {base : Nat} {v : Value} {l : List α} (h : Oy k T R base w v l) (hg : w.grownBy W v.ownBlock) : Kt T w W := Kt.of_grown hg fun _ hgv => (h.own hgv).1

end

end Go.Proofs.YtimdioacmojkeaaGreatDoor
