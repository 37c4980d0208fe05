/-
  lumref: what plain answers: a character of an item, and what is left.
  lumref: the closures that class and marks make: tests of one character.
  lumref: what class answers: a test of one character, and what is left.
  lumref: the table of beginnings.
  lumref: what marks answers: the signs of a part.
-/
import Derived.Test.YtfcnlfblfennaaaDoorNuMem
import Derived.Test.YtfcnlfblfennaaaDoorGbPat
import Derived.WalkKit
import Derived.WalkSpells
import Derived.WalkLawsBesides
import Derived.OwnWalk
import Derived.Test.YtfcnlfblfennaaaDoorRelReg
import Derived.Test.YtfcnlfblfennaaaDoorRyMem
import Derived.Test.YtfcnlfblfennaaaDoorRgItems
import Derived.Deep.LoopGhost
import Derived.Laws.EntriesVeiled
import Derived.Deep.CutBlock
import Derived.RegionTactic
import Derived.ChangeAlike
import Derived.Deep.DeepCutAuto
import Derived.Test.YtfcnlfblfennaaaDoorBrMem
import Derived.Test.YtfcnlfblfennaaaDoorGbTab
import Derived.Test.YtfcnlfblfennaaaDoorGbRead
namespace Go.Proofs.YtfcnlfblfennaaaDoor
open Go.RowKit
set_option maxRecDepth 4000

/-- what plain answers -/
def PlnOut (u : Value) (l : List Nat) (w : World) (e : Ending) (w' : World) : Prop :=
  Below w.heap.size w w' ∧ ((Gb.pl l = none ∧ e = .returned (.tuple #[.int .i64 0, .slice none 0 0, .bool false])) ∨
    ∃ (c : Nat) (r : List Nat) (v : Value), Gb.pl l = some (c, r) ∧ e = .returned (.tuple #[.int .i64 c, v, .bool true]) ∧ Nx w' v r ∧ ∀ B, Lb B u → Lb B v)
theorem Gb.pl_cons (c : Nat) (l : List Nat) : Gb.pl (c :: l) = if c = 93 then none else if c = 92 then l.head?.map (fun d => (d, l.tail)) else some (c, l) := rfl

set_option maxHeartbeats 2000000 in
theorem plain_any (v : Value) (l : List Nat) (w : World) (h : Nx w v l) (hl : l.length ≤ 140737488351232) :
    Calls Tryd.prog 59 #[v] w (PlnOut v l w) := by
  obtain ⟨a, c, rfl⟩ := h.slice
  cases l with
  | nil =>
    clear h
    go_enter Tryd.func59, Tryd.ntmps59
    go_wp2_with fail
    go_ret3
    exact ⟨Below.refl _ _, .inl ⟨rfl, rfl⟩⟩
  | cons x l =>
    obtain ⟨bk, o, rfl, hbk, hc, c0⟩ := h.get 0 (by simp)
    have c0 : w.cell? ⟨bk, o, none⟩ = some (.int .i64 x) := c0
    simp only [List.length_cons] at h hl hc ⊢
    have HP : Hid (Gb.pl (x :: l) = if x = 93 then none else if x = 92 then l.head?.map (fun d => (d, l.tail)) else some (x, l)) := rfl
    have z0 : (((l.length + 1 : Nat) : Int) == 0) = false := by rw [beq_eq_false_iff_ne]; omega
    by_cases h93 : x = 93
    · have HE : Hid (Gb.pl (x :: l) = none) := by
        have := HP.out
        rwa [if_pos h93] at this
      subst h93
      generalize l.length = n at *
      clear h HP
      go_enter Tryd.func59, Tryd.ntmps59
      go_wp2_with fail
      go_ret3
      exact ⟨Below.refl _ _, .inl ⟨HE.out, rfl⟩⟩
    have d93 : ((x : Int) == 93) = false := by rw [beq_eq_false_iff_ne]; omega
    by_cases h92 : x = 92
    · have HE : Hid (Gb.pl (x :: l) = l.head?.map (fun d => (d, l.tail))) := by
        have := HP.out
        rwa [if_neg h93, if_pos h92] at this
      subst h92
      cases l with
      | nil =>
        clear h HP h93 d93
        go_enter Tryd.func59, Tryd.ntmps59
        go_wp2_with fail
        go_ret3
        exact ⟨Below.refl _ _, .inl ⟨HE.out, rfl⟩⟩
      | cons d l =>
        obtain ⟨bk', o', ha, _, _, c1⟩ := h.get 1 (by simp)
        cases ha
        have c1 : w.cell? ⟨bk, o + 1, none⟩ = some (.int .i64 d) := c1
        have HX := Nx.drop (n := l.length) 2 h (by simp)
        simp only [List.length_cons] at h hl hc z0 HX ⊢
        obtain ⟨A1, hA1⟩ : ∃ A1, (if c = 2 then some (⟨bk, o, none⟩ : Addr) else some ⟨bk, o + 2, none⟩) = A1 := ⟨_, rfl⟩
        rw [hA1] at HX
        have HXh : Hid (Nx w (.slice A1 l.length (c - 2)) l) := HX
        have z1 : (((l.length + 1 + 1 : Nat) : Int) == 1) = false := by rw [beq_eq_false_iff_ne]; omega
        generalize l.length = n at *
        have HLb : Hid (∀ B, Lb B (.slice (some ⟨bk, o, none⟩) (n + 1 + 1) c) → Lb B (.slice A1 n (c - 2))) := fun B hB => hB.drop hA1 (by omega)
        clear h HP h93 d93 HX
        go_enter Tryd.func59, Tryd.ntmps59
        go_wp2_with fail
        go_region
        go_wp2_with fail
        go_ret3
        refine ⟨?_, .inr ⟨d, l, _, HE.out, rfl, ?_, HLb.out⟩⟩
        · first | exact Below.refl _ _ | exact (Below.refl _ _).drew
        · first | exact HXh.out | exact HXh.out.below (Below.refl _ _).drew
    · have d92 : ((x : Int) != 92) = true := by rw [bne_iff_ne]; omega
      have HE : Hid (Gb.pl (x :: l) = some (x, l)) := by
        have := HP.out
        rwa [if_neg h93, if_neg h92] at this
      have HX := Nx.drop (n := l.length) 1 h (by simp)
      obtain ⟨A1, hA1⟩ : ∃ A1, (if c = 1 then some (⟨bk, o, none⟩ : Addr) else some ⟨bk, o + 1, none⟩) = A1 := ⟨_, rfl⟩
      rw [hA1] at HX
      have HXh : Hid (Nx w (.slice A1 l.length (c - 1)) l) := HX
      generalize l.length = n at *
      have HLb : Hid (∀ B, Lb B (.slice (some ⟨bk, o, none⟩) (n + 1) c) → Lb B (.slice A1 n (c - 1))) := fun B hB => hB.drop hA1 (by omega)
      clear h HP h93 h92 HX
      go_enter Tryd.func59, Tryd.ntmps59
      go_wp2_with fail
      go_region
      go_wp2_with fail
      go_ret3
      refine ⟨?_, .inr ⟨x, l, _, HE.out, rfl, ?_, HLb.out⟩⟩
      · first | exact Below.refl _ _ | exact (Below.refl _ _).drew
      · first | exact HXh.out | exact HXh.out.below (Below.refl _ _).drew
end Go.Proofs.YtfcnlfblfennaaaDoor

namespace Go.Proofs.YtfcnlfblfennaaaDoor
open Go.RowKit

/-- a pointer to a block of one's own -/
def Pt (b : Nat) : Value := .pointer (some ⟨b, 0, none⟩)
/-- all numbers, truths and rows of numbers that were there are as they were -/
structure Gt (w W : World) : Prop where
  size : w.heap.size ≤ W.heap.size
  obj : ∀ (k : Nat) (cur : Array Value) (T : TypeId) (fr : Nat × Nat), w.heap[k]? = some (.cells cur T fr) → (T = 4 ∨ T = 3 ∨ T = 41) → W.heap[k]? = some (.cells cur T fr)
theorem Gt.refl (w : World) : Gt w w := ⟨Nat.le_refl _, fun _ _ _ _ h _ => h⟩
theorem Gt.trans {w W W' : World} (h : Gt w W) (k : Gt W W') : Gt w W' := ⟨Nat.le_trans h.size k.size, fun i c T fr a b => k.obj i c T fr (h.obj i c T fr a b) b⟩
theorem Gt.of_below {w W : World} (h : Below w.heap.size w W) : Gt w W := ⟨h.size, fun k _ _ _ ho _ => (h.block k (Array.getElem?_eq_some_iff.1 ho).1).trans ho⟩
theorem Gt.of_kt {T : TypeId} {w W : World} (h : Kt T w W) (h1 : T ≠ 4) (h2 : T ≠ 3) (h3 : T ≠ 41) : Gt w W := ⟨h.size, fun k _ _ _ ho hT => h.cell ho (fun e => by rcases hT with q | q | q <;> (rw [q] at e; first | exact h1 e.symm | exact h2 e.symm | exact h3 e.symm))⟩
def Nvv (n : Nat) : Value := .int .i64 n
/-- a row of numbers, its type known -/
abbrev Nt (w : World) (v : Value) (l : List Nat) : Prop := Ry 1 3 (fun _ c cs => cs = [Nvv c]) w v l
theorem Nt.gt {w W : World} {v : Value} {l : List Nat} (h : Nt w v l) (hg : Gt w W) : Nt W v l := Ry.obj h (fun _ _ q => q) fun g cur fr ho => hg.obj g cur _ fr ho (.inr (.inl rfl))
theorem Nt.nx {w : World} {v : Value} {l : List Nat} (h : Nt w v l) : Nx w v l := by
  rcases h.at_ with ⟨⟨a, c, rfl⟩, rfl⟩ | ⟨bk, o, cap, rfl, h2, ⟨cur, fr, h3⟩, h4⟩
  · exact Nx.nil _ _ _
  · refine ⟨.inr ⟨bk, o, cap, rfl, (Array.getElem?_eq_some_iff.1 h3).1, h2, fun j hj => ?_⟩⟩
    obtain ⟨c, _, rfl, hc⟩ := h4 j l[j] (List.getElem?_eq_getElem hj)
    have := hc 0 _ rfl
    rw [Nat.mul_one, Nat.add_zero] at this
    rw [this, List.getD_eq_getElem?_getD, List.getElem?_eq_getElem hj]
    rfl
theorem nt_of_own {base : Nat} {w : World} {v : Value} {l : List Nat} (h : w.ownsRow base 3 1 v l.length (l.map Nvv)) : Nt w v l := by
  refine Oy.ry (base := base) ⟨l.map fun c => [Nvv c], ?_, fun c hc => ?_, by simp, fun j t c h1 h2 => ?_⟩
  · have : (l.map fun c => [Nvv c]).flatten = l.map Nvv := by
      clear h
      induction l with
      | nil => rfl
      | cons a l ih => rw [List.map_cons, List.flatten_cons, ih]; rfl
    rw [this]; exact h
  · obtain ⟨x, _, rfl⟩ := List.mem_map.1 hc
    rfl
  · rw [List.getElem?_map, h1] at h2
    simpa using h2.symm
/-- what a class keeps: its items, in two rows, and whether it is turned round -/
structure ClsM (w : World) (b5 b6 b7 : Nat) (neg : Bool) (its : List (Nat × Nat)) : Prop where
  neg : w.heap[b5]? = some (.cells #[.bool neg] 4 (0, 0))
  low : ∃ v, w.heap[b6]? = some (.cells #[v] 41 (0, 0)) ∧ Nt w v (its.map (·.1))
  high : ∃ v, w.heap[b7]? = some (.cells #[v] 41 (0, 0)) ∧ Nt w v (its.map (·.2))
theorem ClsM.gt {w w' : World} {b5 b6 b7 : Nat} {neg : Bool} {its : List (Nat × Nat)} (h : ClsM w b5 b6 b7 neg its) (hg : Gt w w') : ClsM w' b5 b6 b7 neg its := by
  obtain ⟨h1, ⟨v, h2, h3⟩, ⟨u, h4, h5⟩⟩ := h
  exact ⟨hg.obj _ _ _ _ h1 (.inl rfl), ⟨v, hg.obj _ _ _ _ h2 (.inr (.inr rfl)), h3.gt hg⟩, ⟨u, hg.obj _ _ _ _ h4 (.inr (.inr rfl)), h5.gt hg⟩⟩
theorem any_drop (its : List (Nat × Nat)) (c k : Nat) (hk : k < its.length) : ((its.drop k).any fun i => decide (i.1 ≤ c ∧ c ≤ i.2)) = (decide ((its.map (·.1)).getD k 0 ≤ c ∧ c ≤ (its.map (·.2)).getD k 0) || ((its.drop (k + 1)).any fun i => decide (i.1 ≤ c ∧ c ≤ i.2))) := by
  rw [List.drop_eq_getElem_cons hk, List.any_cons, List.getD_eq_getElem?_getD, List.getD_eq_getElem?_getD, List.getElem?_map, List.getElem?_map, List.getElem?_eq_getElem hk]
  rfl

set_option maxHeartbeats 2000000 in
theorem class1_any (c b5 b6 b7 : Nat) (neg : Bool) (its : List (Nat × Nat)) (w : World) (h : ClsM w b5 b6 b7 neg its) (hl : its.length ≤ 140737488351232) :
    Calls Tryd.prog 60 #[.int .i64 c, Pt b6, Pt b7, Pt b5] w fun e w' => e = .returned (.bool (Gb.one (neg, its) c)) ∧ w' = w := by
  obtain ⟨h1, ⟨v, h2, h3⟩, ⟨u, h4, h5⟩⟩ := h
  have h1 : w.cell? ⟨b5, 0, none⟩ = some (.bool neg) := by simp [World.cell?, h1]
  have h2 : w.cell? ⟨b6, 0, none⟩ = some v := by simp [World.cell?, h2]
  have h4 : w.cell? ⟨b7, 0, none⟩ = some u := by simp [World.cell?, h4]
  have h3 := h3.nx
  have h5 := h5.nx
  obtain ⟨a1, c1, rfl⟩ := h3.slice
  obtain ⟨a2, c2, rfl⟩ := h5.slice
  rw [List.length_map] at h2 h3 h4 h5
  have HL : Hid (Nx w (.slice a1 its.length c1) (its.map (·.1))) := h3
  have HH : Hid (Nx w (.slice a2 its.length c2) (its.map (·.2))) := h5
  have HS : Hid (((its.drop 0).any fun i => decide (i.1 ≤ c ∧ c ≤ i.2)) = its.any fun i => decide (i.1 ≤ c ∧ c ≤ i.2)) := rfl
  have HO : Hid (Gb.one (neg, its) c = ((its.any fun i => decide (i.1 ≤ c ∧ c ≤ i.2)) != neg)) := rfl
  obtain ⟨N, hN⟩ : ∃ N, N = its.length := ⟨_, rfl⟩
  have HN : Hid (N = its.length) := hN
  rw [← hN] at HL HH hl h2 h4
  clear h3 h5 hN
  generalize (its.any fun i => decide (i.1 ≤ c ∧ c ≤ i.2)) = A at *
  unfold Pt
  go_enter Tryd.func60, Tryd.ntmps60
  go_wp2_with fail
  go_loop [9] (fun i => ∃ k : Nat, k ≤ N ∧ i = .int .i64 k ∧ Hid (((its.drop k).any fun i => decide (i.1 ≤ c ∧ c ≤ i.2)) = A)) (fun i => N - (intOf i).toNat)
  case atStart => exact ⟨0, by omega, rfl, HS⟩
  case round =>
    clear HS
    obtain ⟨k, hk, rfl, HS⟩ := hrel
    by_cases hlt : k < N
    · have hkl : k < its.length := by rw [← HN.out]; exact hlt
      obtain ⟨bk, o, rfl, _, _, d1⟩ := HL.out.get k (by rw [List.length_map]; exact hkl)
      obtain ⟨bk', o', rfl, _, _, d2⟩ := HH.out.get k (by rw [List.length_map]; exact hkl)
      have HD : Hid (A = (decide ((its.map (·.1)).getD k 0 ≤ c ∧ c ≤ (its.map (·.2)).getD k 0) || ((its.drop (k + 1)).any fun i => decide (i.1 ≤ c ∧ c ≤ i.2)))) := by
        show _ = _
        rw [← any_drop _ _ _ hkl]; exact HS.out.symm
      generalize (its.map (·.1)).getD k 0 = x at *
      generalize (its.map (·.2)).getD k 0 = y at *
      clear HS
      by_cases q1 : x ≤ c
      · by_cases q2 : c ≤ y
        · have HZ : Hid (A = true) := by
            show _ = _
            rw [HD.out, decide_eq_true ⟨q1, q2⟩]; rfl
          clear HD
          go_wp2_with fail
          go_ret
          exact ⟨by rw [HO.out, HZ.out]; cases neg <;> rfl, rfl⟩
        · have HZ : Hid (((its.drop (k + 1)).any fun i => decide (i.1 ≤ c ∧ c ≤ i.2)) = A) := by
            show _ = _
            rw [HD.out, decide_eq_false (fun q => q2 q.2), Bool.false_or]
          clear HD
          go_wp2_with fail
          go_round
          case rel => exact ⟨k + 1, by omega, by go_num, HZ⟩
          case measure => simp only [intOf]; omega
      · have HZ : Hid (((its.drop (k + 1)).any fun i => decide (i.1 ≤ c ∧ c ≤ i.2)) = A) := by
          show _ = _
          rw [HD.out, decide_eq_false (fun q => q1 q.1), Bool.false_or]
        clear HD
        go_wp2_with fail
        go_round
        case rel => exact ⟨k + 1, by omega, by go_num, HZ⟩
        case measure => simp only [intOf]; omega
    · obtain rfl : k = N := by omega
      have HZ : Hid (A = false) := by
        have := HS.out
        rw [List.drop_eq_nil_of_le (by rw [← HN.out]; omega)] at this
        exact this.symm
      clear HS
      go_wp2_with fail
      go_ret
      exact ⟨by rw [HO.out, HZ.out]; cases neg <;> rfl, rfl⟩

/-- a function that is entered when it is called -/
def Ent (g : FuncId) : Prop := ∀ args W, Sem.run Tryd.prog (callFunc g args) W = .ok (.enter g args) W
/-- a function value that tests one character, from a world on -/
def FnT (w : World) (v : Value) (t : Gb.Tst) : Prop :=
  ∃ f caps, v = .func (.func f) #[] caps ∧ Ent f ∧ ∀ W, Gt w W → ∀ c : Nat, Calls Tryd.prog f (#[.int .i64 c] ++ caps) W fun e w' => e = .returned (.bool (Gb.one t c)) ∧ w' = W
theorem FnT.past {w W : World} {v : Value} {t : Gb.Tst} (h : FnT w v t) (hg : Gt w W) : FnT W v t := by
  obtain ⟨f, caps, h1, h0, h2⟩ := h
  exact ⟨f, caps, h1, h0, fun W' hW' => h2 W' (hg.trans hW')⟩
theorem fn_class {w : World} {b5 b6 b7 : Nat} {neg : Bool} {its : List (Nat × Nat)} (h : ClsM w b5 b6 b7 neg its) (hl : its.length ≤ 140737488351232) : FnT w (.func (.func 60) #[] #[Pt b6, Pt b7, Pt b5]) (neg, its) :=
  ⟨_, _, rfl, fun _ _ => by kernel_rfl, fun W hW c => class1_any c b5 b6 b7 neg its W (h.gt hW) hl⟩

theorem marks1_any (c d b : Nat) (w : World) (h : w.cell? ⟨b, 0, none⟩ = some (.int .i64 c)) :
    Calls Tryd.prog 37 #[.int .i64 d, Pt b] w fun e w' => e = .returned (.bool (Gb.one (Gb.just c) d)) ∧ w' = w := by
  have HE : Hid (Gb.one (Gb.just c) d = ((c : Int) == (d : Int))) := by
    show _ = _
    rw [Gb.one_just]
    by_cases q : d = c
    · rw [decide_eq_true q, q, beq_self_eq_true]
    · rw [decide_eq_false q]; symm; rw [beq_eq_false_iff_ne]; omega
  unfold Pt
  go_enter Tryd.func37, Tryd.ntmps37
  go_wp2_with fail
  go_ret
  exact ⟨by rw [HE.out]; rfl, rfl⟩
theorem marks3_any (c d b : Nat) (w : World) (h : w.cell? ⟨b, 0, none⟩ = some (.int .i64 c)) :
    Calls Tryd.prog 40 #[.int .i64 d, Pt b] w fun e w' => e = .returned (.bool (Gb.one (Gb.just c) d)) ∧ w' = w := by
  have HE : Hid (Gb.one (Gb.just c) d = ((d : Int) == (c : Int))) := by
    show _ = _
    rw [Gb.one_just]
    by_cases q : d = c
    · rw [decide_eq_true q, q, beq_self_eq_true]
    · rw [decide_eq_false q]; symm; rw [beq_eq_false_iff_ne]; omega
  unfold Pt
  go_enter Tryd.func40, Tryd.ntmps40
  go_wp2_with fail
  go_ret
  exact ⟨by rw [HE.out]; rfl, rfl⟩
theorem marks2_any (d : Nat) (w : World) :
    Calls Tryd.prog 38 #[.int .i64 d] w fun e w' => e = .returned (.bool (Gb.one Gb.anyc d)) ∧ w' = w := by
  go_enter Tryd.func38, Tryd.ntmps38
  go_wp2_with fail
  go_ret
  exact ⟨rfl, rfl⟩
theorem fn_just1 {w : World} {b c : Nat} (h : w.heap[b]? = some (.cells #[.int .i64 c] 3 (0, 0))) : FnT w (.func (.func 37) #[] #[Pt b]) (Gb.just c) :=
  ⟨_, _, rfl, fun _ _ => by kernel_rfl, fun W hW d => marks1_any c d b W (by simp [World.cell?, hW.obj _ _ _ _ h (.inr (.inl rfl))])⟩
theorem fn_just3 {w : World} {b c : Nat} (h : w.heap[b]? = some (.cells #[.int .i64 c] 3 (0, 0))) : FnT w (.func (.func 40) #[] #[Pt b]) (Gb.just c) :=
  ⟨_, _, rfl, fun _ _ => by kernel_rfl, fun W hW d => marks3_any c d b W (by simp [World.cell?, hW.obj _ _ _ _ h (.inr (.inl rfl))])⟩
theorem fn_any (w : World) : FnT w (.func (.func 38) #[] #[]) Gb.anyc := ⟨_, _, rfl, fun _ _ => by kernel_rfl, fun W _ d => marks2_any d W⟩
end Go.Proofs.YtfcnlfblfennaaaDoor

namespace Go.Proofs.YtfcnlfblfennaaaDoor
open Go.RowKit

/-- what class answers -/
def ClsOut (u : Value) (l : List Nat) (w : World) (e : Ending) (w' : World) : Prop :=
  Below w.heap.size w w' ∧ ((Gb.cls l = none ∧ e = .returned (.tuple #[.agg #[.bool false, .nilFunc], .slice none 0 0, .bool false])) ∨
    ∃ (t : Gb.Tst) (r : List Nat) (f v : Value), Gb.cls l = some (t, r) ∧ e = .returned (.tuple #[.agg #[.bool false, f], v, .bool true]) ∧ FnT w' f t ∧ Nx w' v r ∧ ∀ B, Lb B u → Lb B v)

/-- how far class is: its variables, its rows, what is left -/
structure ClL (w wr : World) (B M b5 b6 b7 : Nat) (neg : Bool) (done : List (Nat × Nat)) (rem : List Nat) (v0 v1 v2 : Value) : Prop where
  there : wr.heap[M]? = some (.cells #[.bool false, .nilFunc] 71 (0, 0))
  c5 : wr.heap[b5]? = some (.cells #[.bool neg] 4 (0, 0))
  c6 : wr.heap[b6]? = some (.cells #[v1] 41 (0, 0))
  c7 : wr.heap[b7]? = some (.cells #[v2] 41 (0, 0))
  low : Ow wr B v1 (done.map fun i => Nvv i.1)
  high : Ow wr B v2 (done.map fun i => Nvv i.2)
  apart : ∀ g, v1.ownBlock = some g → v2.ownBlock ≠ some g
  rest : Nx wr v0 rem
  bel : Below w.heap.size w wr
  sz : B ≤ wr.heap.size
theorem ClL.past {w wr wr' : World} {B M b5 b6 b7 : Nat} {neg : Bool} {done : List (Nat × Nat)} {rem : List Nat} {v0 v1 v2 : Value} (h : ClL w wr B M b5 b6 b7 neg done rem v0 v1 v2) (hb : Below wr.heap.size wr wr') : ClL w wr' B M b5 b6 b7 neg done rem v0 v1 v2 := by
  have hs := hb.size
  have hc : ∀ {b : Nat} {x : Value}, wr.cell? ⟨b, 0, none⟩ = some x → wr'.cell? ⟨b, 0, none⟩ = some x := fun {b x} q => (hb.cell (p := ⟨b, 0, none⟩) (World.block_lt_of_cell? wr _ q)).trans q
  exact ⟨(hb.block M (Array.getElem?_eq_some_iff.1 h.there).1).trans h.there, (hb.block b5 (Array.getElem?_eq_some_iff.1 h.c5).1).trans h.c5, (hb.block b6 (Array.getElem?_eq_some_iff.1 h.c6).1).trans h.c6, (hb.block b7 (Array.getElem?_eq_some_iff.1 h.c7).1).trans h.c7, own_below h.low hb, own_below h.high hb, h.apart, h.rest.below hb, h.bel.trans (hb.mono h.bel.size), Nat.le_trans h.sz hs⟩
theorem var_at {W : World} {b : Nat} {x : Value} (h : W.heap[b]? = some (.cells #[x] 41 (0, 0))) : W.cell? ⟨b, 0, none⟩ = some x ∧ W.frozen? ⟨b, 0, none⟩ = false := by
  refine ⟨?_, ?_⟩
  · simp [World.cell?, h]
  · simp [World.frozen?, h]
theorem mark_at {W : World} {M : Nat} {x y : Value} (h : W.heap[M]? = some (.cells #[x, y] 71 (0, 0))) : W.cell? ⟨M, 0, none⟩ = some x ∧ W.cell? ⟨M, 1, none⟩ = some y ∧ W.frozen? ⟨M, 0, none⟩ = false ∧ W.frozen? ⟨M, 1, none⟩ = false := by
  refine ⟨?_, ?_, ?_, ?_⟩
  · simp [World.cell?, h]
  · simp [World.cell?, h]
  · simp [World.frozen?, h]
  · simp [World.frozen?, h]
theorem heap_modify_same {h : Array Obj} {M : Nat} {o : Obj} {f : Obj → Obj} (ho : h[M]? = some o) (hf : f o = o) : h.modify M f = h := by
  apply Array.ext
  · simp
  · intro i h1 h2
    rw [Array.getElem_modify]
    split
    · rename_i e
      subst e
      have : h[M] = o := (Array.getElem?_eq_some_iff.1 ho).2
      rw [this, hf]
    · rfl
theorem mark_same {W : World} {M : Nat} {x y : Value} (h : W.heap[M]? = some (.cells #[x, y] 71 (0, 0))) : W.setCell ⟨M, 0, none⟩ x = W ∧ W.setCell ⟨M, 1, none⟩ y = W := by
  refine ⟨?_, ?_⟩
  · unfold World.setCell
    rw [heap_modify_same h (by simp)]
  · unfold World.setCell
    rw [heap_modify_same h (by simp)]
theorem ow_len {W : World} {B : Nat} {v : Value} {xs : List Value} (h : Ow W B v xs) : ∃ a c, v = .slice a xs.length c := own_len h

theorem kept_cell {p : Nat → Prop} {A B : World} (h : Kept p A B) {b : Nat} {x : Value} (hp : p b) (hc : A.cell? ⟨b, 0, none⟩ = some x) : B.cell? ⟨b, 0, none⟩ = some x := by
  have e := h.block b (World.block_lt_of_cell? A _ hc) hp
  rw [← hc]
  simp only [World.cell?, e]
theorem ow_nx {W : World} {B : Nat} {v : Value} {l : List Nat} (h : Ow W B v (l.map Nvv)) : Nx W v l := by
  rcases h.2 with ⟨rfl, h0⟩ | ⟨g, cap, cur, rfl, hb, hh, hle, hm, hs, htk⟩
  · have : l = [] := by simpa using h0
    subst this
    exact Nx.nil _ _ _
  · rw [List.length_map] at hle htk ⊢
    refine ⟨.inr ⟨g, 0, cap, rfl, (Array.getElem?_eq_some_iff.1 hh).1, hle, fun j hj => ?_⟩⟩
    have e : cur[j]? = some (Nvv (l.getD j 0)) := by
      have q := congrArg (fun x => x[j]?) htk
      simp only [Nat.mul_one, List.getElem?_take, hj, if_true, List.getElem?_map] at q
      rw [← Array.getElem?_toList, q, List.getElem?_eq_getElem hj, List.getD_eq_getElem?_getD, List.getElem?_eq_getElem hj]
      rfl
    rw [Nat.zero_add]
    simp [World.cell?, hh, e, Nvv]
theorem set_var {W : World} {b : Nat} {x : Value} (y : Value) (h : W.heap[b]? = some (.cells #[x] 41 (0, 0))) : (W.setCell ⟨b, 0, none⟩ y).heap[b]? = some (.cells #[y] 41 (0, 0)) ∧ Kept (fun k => k ≠ b) W (W.setCell ⟨b, 0, none⟩ y) := by
  refine ⟨?_, rfl, rfl, rfl, by simp [World.setCell], fun k hk hne => ?_⟩
  · simp [World.setCell, Array.getElem?_modify, h]
  · simp [World.setCell, Array.getElem?_modify, Ne.symm hne]
theorem ClL.next {w W3 W W' : World} {M b5 b6 : Nat} {neg : Bool} {done : List (Nat × Nat)} {rem : List Nat} {u0 v1 v2 : Value} {p1 p2 : Option Nat} (hI : b5 = M + 1 ∧ b6 = M + 2 ∧ M = w.heap.size) (hk : Kept (fun k => k ≠ b6 ∧ k ≠ b6 + 1) W W')
    (k6 : W'.heap[b6]? = some (.cells #[v1] 41 (0, 0))) (k7 : W'.heap[b6 + 1]? = some (.cells #[v2] 41 (0, 0))) (hW : Kept (fun k => some k ≠ p1 ∧ some k ≠ p2) W3 W) (n1 : ∀ g, p1 = some g → M + 4 ≤ g) (n2 : ∀ g, p2 = some g → M + 4 ≤ g)
    (hth : W3.heap[M]? = some (.cells #[.bool false, .nilFunc] 71 (0, 0))) (h5 : W3.heap[b5]? = some (.cells #[.bool neg] 4 (0, 0))) (hsz : M + 4 ≤ W3.heap.size) (hbel : Below w.heap.size w W3)
    (hl : Ow W (M + 4) v1 (done.map fun i => Nvv i.1)) (hh : Ow W (M + 4) v2 (done.map fun i => Nvv i.2)) (hap : ∀ g, v1.ownBlock = some g → v2.ownBlock ≠ some g) (hX : Nx W u0 rem) (hLb : Lb M u0) : ClL w W' (M + 4) M b5 b6 (b6 + 1) neg done rem u0 v1 v2 := by
  obtain ⟨i1, i2, i3⟩ := hI
  have s1 := hW.size
  have s2 := hk.size
  have hB : Below (M + 2) W3 W' := ⟨hk.os.trans hW.os, hk.tape.trans hW.tape, hk.output.trans hW.output, Nat.le_trans s1 s2, fun k h => (hk.block k (by omega) ⟨by omega, by omega⟩).trans (hW.block k (by omega) ⟨fun e => by have := n1 k e.symm; omega, fun e => by have := n2 k e.symm; omega⟩)⟩
  have op : ∀ {v : Value} {xs : List Value}, Ow W (M + 4) v xs → Ow W' (M + 4) v xs := fun {v xs} h => own_kept h hk fun g hg => by
    obtain ⟨_, _, q, _⟩ := own_block h hg
    exact ⟨by omega, by omega⟩
  exact ⟨(hB.block M (by omega)).trans hth, (hB.block b5 (show b5 < M + 2 by omega)).trans h5, k6, k7, op hl, op hh, hap, hX.keep hLb s2 fun k h1 h2 => hk.block k h2 ⟨by omega, by omega⟩, hbel.trans (hB.mono (by omega)), by omega⟩

set_option maxHeartbeats 4000000 in
set_option maxRecDepth 10000 in
theorem class_any (v : Value) (l : List Nat) (w : World) (h : Nx w v l) (hl : l.length ≤ 4194304) :
    Calls Tryd.prog 39 #[v] w (ClsOut v l w) := by
  obtain ⟨a, c, rfl⟩ := h.slice
  obtain ⟨neg, hneg⟩ : ∃ neg, neg = decide (l.head? = some 94) := ⟨_, rfl⟩
  obtain ⟨L, hL⟩ : ∃ L, L = (if l.head? = some 94 then l.tail else l) := ⟨_, rfl⟩
  have HC : Hid (Gb.cls l = (Gb.nxt true L).map fun x => ((neg, x.1), x.2)) := by
    show _ = _
    rw [hneg, hL]; exact Gb.cls_nxt l
  have HN : Hid (neg = decide (l.head? = some 94)) := hneg
  have HL : Hid (L = (if l.head? = some 94 then l.tail else l)) := hL
  have HX : Hid (Nx w (.slice a l.length c) l) := h
  obtain ⟨N, hNe⟩ : ∃ N, N = l.length := ⟨_, rfl⟩
  have HNl : Hid (N = l.length) := hNe
  rw [← hNe] at HX hl ⊢
  clear h hneg hL hNe
  go_enter Tryd.func39, Tryd.ntmps39
  go_upto_region 1 with fail
  obtain ⟨W0, hW0⟩ : ∃ W0, W0 = w.alloc (.cells #[.bool false, .nilFunc] 71) := ⟨_, rfl⟩
  have HW0 : Hid (Below w.heap.size w W0 ∧ W0.heap.size = w.heap.size + 1 ∧ W0.heap[w.heap.size]? = some (.cells #[.bool false, .nilFunc] 71 (0, 0))) := by
    rw [hW0]
    exact ⟨(Below.refl _ w).alloc (Nat.le_refl _) _, by simp, heap_alloc_new w _⟩
  rw [← hW0]
  clear hW0
  go_cut [5] from 12 to 20 (fun x wx => x = .pointer (some ⟨W0.heap.size, 0, none⟩) ∧ wx = W0.alloc (.cells #[.bool neg] 4))
  case first =>
    cases l with
    | nil =>
      have hn : neg = false := HN.out
      subst hn
      have hz : ¬ (0 : Int) < (N : Int) := by rw [HNl.out]; simp
      clear HX HL HC
      go_wp2_with fail
      go_meet
      exact ⟨rfl, rfl⟩
    | cons x l =>
      have hx : neg = ((x : Int) == 94) := by
        have := HN.out
        rw [List.head?_cons] at this
        rw [this]
        by_cases q : x = 94
        · rw [q]; rfl
        · rw [decide_eq_false (by simpa using q)]; symm; rw [beq_eq_false_iff_ne]; omega
      obtain ⟨bk, o, rfl, hbk, _, c0⟩ := (HX.out.below HW0.out.1).get 0 (by simp)
      have c0 : W0.cell? ⟨bk, o, none⟩ = some (.int .i64 x) := c0
      have hz : (0 : Int) < (N : Int) := by rw [HNl.out, List.length_cons]; omega
      clear HX HL HC HN
      subst hx
      go_wp2_with fail
      go_meet
      exact ⟨rfl, rfl⟩
  case rest =>
    obtain ⟨rfl, hw⟩ := hcut
    obtain ⟨W1, hW1⟩ : ∃ W1, W1 = wc := ⟨_, rfl⟩
    subst hW1
    have c5 : W1.cell? ⟨W0.heap.size, 0, none⟩ = some (.bool neg) := by rw [hw, World.cell?_alloc_new]; rfl
    have HC5 : Hid (W1.heap[W0.heap.size]? = some (.cells #[.bool neg] 4 (0, 0))) := by rw [hw]; exact heap_alloc_new W0 _
    have HW1 : Hid (Below W0.heap.size W0 W1 ∧ W1.heap.size = W0.heap.size + 1) := by
      rw [hw]; exact ⟨(Below.refl _ W0).alloc (Nat.le_refl _) _, by simp⟩
    clear hw
    go_upto_if 21 with fail
    go_cut [0] from 22 to 23 (fun x wx => Hid (Nx W1 x L ∧ (∀ B, Lb B (.slice a N c) → Lb B x)) ∧ wx = W1)
    case first =>
      have hXw := HX.out.below (HW0.out.1.trans (HW1.out.1.mono (by have := HW0.out.2.1; omega)))
      by_cases hh : l.head? = some 94
      · have hn : neg = true := by rw [HN.out]; exact decide_eq_true hh
        have hLt : L = l.tail := by rw [HL.out, if_pos hh]
        cases l with
        | nil => cases hh
        | cons x l =>
          obtain ⟨bk, o, rfl, hbk, hc1, _⟩ := hXw.get 0 (by simp)
          rw [List.length_cons] at hc1
          have hN1 : N = l.length + 1 := HNl.out
          rw [hN1] at hXw
          have HD := Nx.drop (n := l.length) 1 hXw (by simp)
          obtain ⟨A1, hA1⟩ : ∃ A1, (if c = 1 then some (⟨bk, o, none⟩ : Addr) else some ⟨bk, o + 1, none⟩) = A1 := ⟨_, rfl⟩
          rw [hA1] at HD
          have HDh : Hid (Nx W1 (.slice A1 (N - 1) (c - 1)) L ∧ (∀ B, Lb B (.slice (some ⟨bk, o, none⟩) N c) → Lb B (.slice A1 (N - 1) (c - 1)))) := by
            refine ⟨?_, fun B hB => hB.drop hA1 (by omega)⟩
            rw [hLt, hN1, Nat.add_sub_cancel]; exact HD
          have q1 : (1 : Int) ≤ (N : Int) := by omega
          have q2 : (N : Int) ≤ (c : Int) := by omega
          subst hn
          clear HD hXw HX HL HC HN hLt hN1 HNl hc1
          go_wp2_with fail
          go_meet
          exact ⟨HDh, rfl⟩
      · have hn : neg = false := by rw [HN.out]; exact decide_eq_false hh
        have hLt : L = l := by rw [HL.out, if_neg hh]
        have HDh : Hid (Nx W1 (.slice a N c) L ∧ (∀ B, Lb B (.slice a N c) → Lb B (.slice a N c))) := ⟨by rw [hLt]; exact hXw, fun _ h => h⟩
        subst hn
        clear hXw HX HL HC HN hLt HNl
        go_wp2_with fail
        go_meet
        exact ⟨HDh, rfl⟩
    case rest =>
      obtain ⟨HXL, hw2⟩ := hcut
      have hw3 := hw2.symm
      clear hw2
      subst hw3
      obtain ⟨W2, hW2⟩ : ∃ W2, W2 = (W1.alloc (.cells #[.slice none 0 0] 41)).alloc (.cells #[.slice none 0 0] 41) := ⟨_, rfl⟩
      obtain ⟨b6, hb6⟩ : ∃ b6, b6 = W1.heap.size := ⟨_, rfl⟩
      obtain ⟨b5, hb5⟩ : ∃ b5, b5 = W0.heap.size := ⟨_, rfl⟩
      obtain ⟨M, hM⟩ : ∃ M, M = w.heap.size := ⟨_, rfl⟩
      have k1 := HW0.out.2.1
      have k2 := HW1.out.2
      have hB2 : Below W1.heap.size W1 W2 := by
        rw [hW2]
        exact ((Below.refl _ W1).alloc (Nat.le_refl _) _).alloc (by simp) _
      have HIx : Hid (b5 = M + 1 ∧ b6 = M + 2 ∧ W2.heap.size = M + 4 ∧ M = w.heap.size) := by
        refine ⟨by omega, by omega, ?_, hM⟩
        rw [hW2]
        simp only [World.alloc, Array.size_push]
        omega
      have HCl : Hid (ClL w W2 (M + 4) M b5 b6 (b6 + 1) neg [] L u0 (.slice none 0 0) (.slice none 0 0)) := by
        have hlt : M < W0.heap.size := by omega
        have e0 : W2.heap[M]? = W0.heap[M]? := (hB2.block M (by omega)).trans (HW1.out.1.block M (by omega))
        refine ⟨by rw [e0, hM]; exact HW0.out.2.2, (hB2.block b5 (show b5 < W1.heap.size by omega)).trans (by rw [hb5]; exact HC5.out), ?_, ?_, World.ownsRow_nil _ _ _ _, World.ownsRow_nil _ _ _ _, fun g hg => by simp [Value.ownBlock] at hg, HXL.out.1.below hB2, (HW0.out.1.trans (HW1.out.1.mono (by omega))).trans (hB2.mono (by omega)), by have := HIx.out.2.2.1; omega⟩
        · rw [hW2, hb6, ((Below.refl (W1.heap.size + 1) _).alloc (by simp) _).block W1.heap.size (by omega)]
          exact heap_alloc_new W1 _
        · rw [hW2, hb6]
          have e : (W1.alloc (.cells #[.slice none 0 0] 41)).heap.size = W1.heap.size + 1 := by simp
          rw [← e]
          exact heap_alloc_new _ _
      have HLl : Hid (L.length ≤ 4194304) := by
        show _ ≤ _
        have := HNl.out
        rw [HL.out]
        split
        · rw [List.length_tail]; omega
        · omega
      obtain ⟨Z, hZ⟩ : ∃ Z, Gb.nxt true L = Z := ⟨_, rfl⟩
      have HZ : Hid (Gb.cls l = Z.map fun x => ((neg, x.1), x.2)) := by
        have := HC.out
        rwa [hZ] at this
      have HR : Hid ((Gb.nxt true L).map (fun x => (([] : List (Nat × Nat)) ++ x.1, x.2)) = Z) := by
        show _ = _
        rw [hZ]; cases Z <;> rfl
      have HLb : Hid (Lb M u0 ∧ ∀ B, Lb B (.slice a N c) → Lb B u0) := by
        have hin : Lb M (.slice a N c) := HX.out.lb (by omega)
        exact ⟨HXL.out.2 _ hin, HXL.out.2⟩
      clear hB2 k1 k2 HXL HW0 HW1 c5 HC5 HC HN HL HX hZ
      go_upto_region 4 with fail
      rw [← hM, ← hb5]
      clear hM hb5
      go_wp2_with fail
      rw [← hW2, ← hb6]
      clear hW2 hb6
      go_loopg [0] (L.length + 1) (fun g v0 wr => ∃ (done : List (Nat × Nat)) (rem : List Nat) (v1 v2 : Value), g = rem.length + 1 ∧ Hid (ClL w wr (M + 4) M b5 b6 (b6 + 1) neg done rem v0 v1 v2) ∧ Hid ((Gb.nxt (decide (done = [])) rem).map (fun x => (done ++ x.1, x.2)) = Z) ∧ Hid (done.length + rem.length ≤ L.length) ∧ Hid (Lb M v0 ∧ ∀ B, Lb B (.slice a N c) → Lb B v0))
      case atStart => exact ⟨[], L, _, _, rfl, HCl, HR, by show _ ≤ _; simp, HLb⟩
      case round =>
        clear HCl HR HLb
        obtain ⟨done, rem, v1, v2, rfl, HCl, HR, HLn, HLb⟩ := hrel
        obtain ⟨a0, c0, rfl⟩ := HCl.out.rest.slice
        obtain ⟨a1, c1, hv1⟩ := ow_len HCl.out.low
        obtain ⟨a2, c2, hv2⟩ := ow_len HCl.out.high
        rw [List.length_map] at hv1 hv2
        subst hv1
        subst hv2
        have d5 : wr.cell? ⟨b5, 0, none⟩ = some (.bool neg) := by simp [World.cell?, HCl.out.c5]
        have d6 := (var_at HCl.out.c6).1
        have d7 := (var_at HCl.out.c7).1
        have hlen : done.length + rem.length ≤ 4194304 := Nat.le_trans HLn.out HLl.out
        by_cases hbody : done = [] ∨ (rem ≠ [] ∧ rem.head? ≠ some 93)
        · go_upto_region 5 with fail
          go_cut [37] from 24 to 36 (fun x wx => x = .bool true ∧ wx = wr)
          case first =>
            rcases hbody with hd | ⟨h1, h2⟩
            · subst hd
              go_wp2_with fail
              go_meet
              exact ⟨rfl, rfl⟩
            · by_cases hd : done = []
              · subst hd
                go_wp2_with fail
                go_meet
                exact ⟨rfl, rfl⟩
              · have hz : ((done.length : Int) == 0) = false := by
                  rw [beq_eq_false_iff_ne]
                  have := List.length_pos_iff.2 hd
                  omega
                have hr : (0 : Int) < (rem.length : Int) := by
                  have := List.length_pos_iff.2 h1
                  omega
                obtain ⟨bk, o, rfl, hbk, _, e0⟩ := HCl.out.rest.get 0 (List.length_pos_iff.2 h1)
                rw [Nat.add_zero] at e0
                have hx : ((rem.getD 0 0 : Nat) : Int) ≠ 93 := fun q => h2 (by
                  cases rem with
                  | nil => exact absurd rfl h1
                  | cons y r =>
                    have q' : ((y : Nat) : Int) = 93 := q
                    have : y = 93 := by omega
                    rw [this]; rfl)
                have hxb : (((rem.getD 0 0 : Nat) : Int) != 93) = true := by rw [bne_iff_ne]; exact hx
                generalize rem.getD 0 0 = x at *
                go_wp2_with fail
                go_meet
                exact ⟨rfl, rfl⟩
          case rest =>
            obtain ⟨rfl, hw⟩ := hcut
            have hw3 := hw.symm
            clear hw
            subst hw3
            have HB : Hid (Gb.nxt (decide (done = [])) rem = (Gb.item rem).bind fun x => (Gb.nxt false x.2).map fun y => (x.1 :: y.1, y.2)) := by
              refine Gb.nxt_step (fun q => ?_) (fun q => ?_)
              · rcases hbody with hd | ⟨h1, h2⟩
                · rw [hd] at q; simp at q
                · exact h1 q.2
              · rcases hbody with hd | ⟨h1, h2⟩
                · rw [hd] at q; simp at q
                · exact h2 q.2
            have hp := plain_any _ rem wr HCl.out.rest (by omega)
            clear hbody
            go_wp2_with fail
            refine hp.mono ?_
            rintro e w2 ⟨b2, ⟨hn, rfl⟩ | ⟨x, r, v, hs, rfl, hx, hlb⟩⟩
            · have HCl2 := HCl.out.past b2
              have HF : Hid (Z = none) := by
                have h1 : Gb.item rem = none := by unfold Gb.item; rw [hn]
                have := HR.out
                rw [HB.out, h1] at this
                exact this.symm
              obtain ⟨m0, m1, f0, f1⟩ := mark_at HCl2.there
              obtain ⟨s0, s1⟩ := mark_same HCl2.there
              have HBl : Hid (Below w.heap.size w w2) := HCl2.bel
              clear HCl HCl2 hp hn HR HB b2 d5 d6 d7
              go_wp2_with fail
              refine bodyPost_ret (v := .tuple #[.agg #[.bool false, .nilFunc], .slice none 0 0, .bool false]) ?_ rfl ⟨HBl.out, .inl ⟨by rw [HZ.out, HF.out]; rfl, rfl⟩⟩
              simp [results, asAddr, go_sem, m0, m1]
            · have HCl2 : Hid (ClL w w2 (M + 4) M b5 b6 (b6 + 1) neg done rem (.slice a0 rem.length c0) (.slice a1 done.length c1) (.slice a2 done.length c2)) := HCl.out.past b2
              have HXr : Hid (Nx w2 v r) := hx
              have hrl := Gb.pl_less hs
              have HI : Hid (Gb.item rem = if r.head? = some 45 then (match Gb.pl r.tail with | none => none | some (d, r') => if d < x then none else some ((x, d), r')) else some ((x, x), r)) := by
                show _ = _
                unfold Gb.item
                rw [hs]
                rfl
              obtain ⟨a3, c3, rfl⟩ := hx.slice
              obtain ⟨K, hKe⟩ : ∃ K, K = r.length := ⟨_, rfl⟩
              have HKe : Hid (K = r.length) := hKe
              rw [← hKe] at HXr hrl hlb ⊢
              obtain ⟨DD, hDD⟩ : ∃ DD, DD = decide (r.head? = some 45) := ⟨_, rfl⟩
              have HDD : Hid (DD = decide (r.head? = some 45)) := hDD
              have HL2 : Hid (Lb M (.slice a3 K c3) ∧ ∀ B, Lb B (.slice a N c) → Lb B (.slice a3 K c3)) := ⟨hlb _ HLb.out.1, fun B hB => hlb B (HLb.out.2 B hB)⟩
              clear hx hs hp b2 HCl d5 d6 d7 hKe hDD hlb HLb
              go_upto_region 11 with fail
              go_cut [57] from 49 to 56 (fun b wx => b = .bool DD ∧ wx = w2)
              case first =>
                cases r with
                | nil =>
                  have hz : ¬ (0 : Int) < (K : Int) := by rw [HKe.out]; simp
                  have hd : DD = false := HDD.out
                  subst hd
                  clear HI HB HR
                  go_wp2_with fail
                  go_meet
                  exact ⟨rfl, rfl⟩
                | cons y r =>
                  obtain ⟨bk, o, rfl, hbk, _, e0⟩ := HXr.out.get 0 (by simp)
                  have e0 : w2.cell? ⟨bk, o, none⟩ = some (.int .i64 y) := e0
                  have hz : (0 : Int) < (K : Int) := by rw [HKe.out, List.length_cons]; omega
                  have HY : Hid (decide ((y :: r).head? = some 45) = ((y : Int) == 45)) := by
                    show _ = _
                    rw [List.head?_cons]
                    by_cases q : y = 45
                    · rw [q]; rfl
                    · rw [decide_eq_false (by simpa using q)]; symm; rw [beq_eq_false_iff_ne]; omega
                  clear HI HB HR
                  go_wp2_with fail
                  go_meet
                  exact ⟨by rw [HDD.out, HY.out], rfl⟩
              case rest =>
                obtain ⟨rfl, hw⟩ := hcut
                have hw3 := hw.symm
                clear hw
                subst hw3
                go_upto_if 57 with fail
                go_cut [0, 10, 11] from 58 to 71 (fun v0 k d wx => k = .bool true ∧ Hid (∃ (D : Nat) (r' : List Nat), d = .int .i64 D ∧ Nx wx v0 r' ∧ Gb.item rem = some ((x, D), r') ∧ Below w2.heap.size w2 wx ∧ Lb M v0 ∧ ∀ B, Lb B (.slice a N c) → Lb B v0))
                case first =>
                  by_cases hh : r.head? = some 45
                  · have hd : DD = true := by rw [HDD.out]; exact decide_eq_true hh
                    subst hd
                    cases r with
                    | nil => cases hh
                    | cons y r =>
                      obtain ⟨bk, o, rfl, hbk, hc1, _⟩ := HXr.out.get 0 (by simp)
                      have hXw := HXr.out
                      have hN1 : K = r.length + 1 := HKe.out
                      rw [List.length_cons, ← hN1] at hc1
                      rw [hN1] at hXw
                      have HD := Nx.drop (n := r.length) 1 hXw (by simp)
                      obtain ⟨A1, hA1⟩ : ∃ A1, (if c3 = 1 then some (⟨bk, o, none⟩ : Addr) else some ⟨bk, o + 1, none⟩) = A1 := ⟨_, rfl⟩
                      rw [hA1, ← show K - 1 = r.length from by omega] at HD
                      have hp2 := plain_any _ r w2 HD (by omega)
                      have HL3 : Hid (∀ B, Lb B (.slice (some ⟨bk, o, none⟩) K c3) → Lb B (.slice A1 (K - 1) (c3 - 1))) := fun B hB => hB.drop hA1 (by omega)
                      have HI3 : Hid (Gb.item rem = (match Gb.pl r with | none => none | some (d, r') => if d < x then none else some ((x, d), r'))) := by
                        have := HI.out
                        rwa [if_pos hh] at this
                      have q1 : (1 : Int) ≤ (K : Int) := by omega
                      have q2 : (K : Int) ≤ (c3 : Int) := by omega
                      clear HD hXw hN1 HI hh HXr
                      go_wp2_with fail
                      refine hp2.mono ?_
                      rintro e w3 ⟨b3, ⟨hn, rfl⟩ | ⟨d, r', v, hs, rfl, hx, hlb2⟩⟩
                      · have HCl3 := HCl2.out.past b3
                        have HF : Hid (Z = none) := by
                          have := HR.out
                          rw [HB.out, HI3.out, hn] at this
                          exact this.symm
                        obtain ⟨m0, m1, f0, f1⟩ := mark_at HCl3.there
                        obtain ⟨s0, s1⟩ := mark_same HCl3.there
                        have HBl : Hid (Below w.heap.size w w3) := HCl3.bel
                        clear HCl2 HCl3 hp2 hn HR HB b3 HI3
                        go_wp2_with fail
                        refine bodyPost_ret (v := .tuple #[.agg #[.bool false, .nilFunc], .slice none 0 0, .bool false]) ?_ rfl ⟨HBl.out, .inl ⟨by rw [HZ.out, HF.out]; rfl, rfl⟩⟩
                        simp [results, asAddr, go_sem, m0, m1]
                      · have HX3 : Hid (Nx w3 v r') := hx
                        have HB3 : Hid (Below w2.heap.size w2 w3) := b3
                        have HL4 : Hid (Lb M v ∧ ∀ B, Lb B (.slice a N c) → Lb B v) := ⟨hlb2 _ (HL3.out _ HL2.out.1), fun B hB => hlb2 B (HL3.out B (HL2.out.2 B hB))⟩
                        clear hlb2
                        obtain ⟨a4, c4, rfl⟩ := hx.slice
                        by_cases hdx : d < x
                        · have HCl3 := HCl2.out.past b3
                          have HF : Hid (Z = none) := by
                            have := HR.out
                            rw [HB.out, HI3.out, hs] at this
                            dsimp only at this
                            rw [if_pos hdx] at this
                            exact this.symm
                          obtain ⟨m0, m1, f0, f1⟩ := mark_at HCl3.there
                          obtain ⟨s0, s1⟩ := mark_same HCl3.there
                          have HBl : Hid (Below w.heap.size w w3) := HCl3.bel
                          clear HCl2 HCl3 hp2 hs HR HB b3 HI3 hx HX3 HB3
                          go_wp2_with fail
                          refine bodyPost_ret (v := .tuple #[.agg #[.bool false, .nilFunc], .slice none 0 0, .bool false]) ?_ rfl ⟨HBl.out, .inl ⟨by rw [HZ.out, HF.out]; rfl, rfl⟩⟩
                          simp [results, asAddr, go_sem, m0, m1]
                        · have HI4 : Hid (Gb.item rem = some ((x, d), r')) := by
                            have := HI3.out
                            rw [hs] at this
                            dsimp only at this
                            rwa [if_neg hdx] at this
                          clear HCl2 hp2 hs HR HB b3 HI3 hx
                          go_wp2_with fail
                          go_meet
                          exact ⟨rfl, d, r', rfl, HX3.out, HI4.out, HB3.out, HL4.out.1, HL4.out.2⟩
                  · have HI2 : Hid (Gb.item rem = some ((x, x), r)) := by
                      have := HI.out
                      rwa [if_neg hh] at this
                    have hd : DD = false := by rw [HDD.out]; exact decide_eq_false hh
                    subst hd
                    clear hh HI
                    go_wp2_with fail
                    go_meet
                    exact ⟨rfl, x, r, rfl, HXr.out, HI2.out, Below.refl _ _, HL2.out.1, HL2.out.2⟩
                case rest =>
                  obtain ⟨rfl, HQ⟩ := hcut
                  obtain ⟨W3, hW3⟩ : ∃ W3, W3 = wc := ⟨_, rfl⟩
                  subst hW3
                  obtain ⟨D, r', hd11, hx3, hit, b3, hq1, hq2⟩ := HQ.out
                  have HLq : Hid (Lb M u0 ∧ ∀ B, Lb B (.slice a N c) → Lb B u0) := ⟨hq1, hq2⟩
                  clear hq1 hq2
                  subst hd11
                  have HCl3 := HCl2.out.past b3
                  have HX3 : Hid (Nx W3 u0 r') := hx3
                  have HIt : Hid (Gb.item rem = some ((x, D), r')) := hit
                  have hil := Gb.item_less hit
                  have d6 := (var_at HCl3.c6).1
                  have d7 := (var_at HCl3.c7).1
                  have HB6 : Hid (W3.heap[b6]? = some (.cells #[.slice a1 done.length c1] 41 (0, 0))) := HCl3.c6
                  have HB7 : Hid (W3.heap[b6 + 1]? = some (.cells #[.slice a2 done.length c2] 41 (0, 0))) := HCl3.c7
                  have HLow : Hid (Ow W3 (M + 4) (.slice a1 done.length c1) (done.map fun i => Nvv i.1)) := HCl3.low
                  have HHigh : Hid (Ow W3 (M + 4) (.slice a2 done.length c2) (done.map fun i => Nvv i.2)) := HCl3.high
                  have HApt : Hid (∀ g, (Value.slice a1 done.length c1).ownBlock = some g → (Value.slice a2 done.length c2).ownBlock ≠ some g) := HCl3.apart
                  have HSz : Hid (M + 4 ≤ W3.heap.size) := HCl3.sz
                  have HThere : Hid (W3.heap[M]? = some (.cells #[.bool false, .nilFunc] 71 (0, 0))) := HCl3.there
                  have H5 : Hid (W3.heap[b5]? = some (.cells #[.bool neg] 4 (0, 0))) := HCl3.c5
                  have HBel : Hid (Below w.heap.size w W3) := HCl3.bel
                  have l1 : ∀ g, (Value.slice a1 done.length c1).ownBlock = some g → g < W3.heap.size := fun g hg => by obtain ⟨_, _, _, q⟩ := own_block HLow.out hg; exact q
                  have l2 : ∀ g, (Value.slice a2 done.length c2).ownBlock = some g → g < W3.heap.size := fun g hg => by obtain ⟨_, _, _, q⟩ := own_block HHigh.out hg; exact q
                  have HG1 : Hid (∀ g, (Value.slice a1 done.length c1).ownBlock = some g → M + 4 ≤ g) := fun g hg => by obtain ⟨_, _, q, _⟩ := own_block HLow.out hg; exact q
                  have HG2 : Hid (∀ g, (Value.slice a2 done.length c2).ownBlock = some g → M + 4 ≤ g) := fun g hg => by obtain ⟨_, _, q, _⟩ := own_block HHigh.out hg; exact q
                  have n61 : some b6 ≠ (Value.slice a1 done.length c1).ownBlock := fun e => by have := HG1.out b6 e.symm; have := HIx.out; omega
                  have n62 : some b6 ≠ (Value.slice a2 done.length c2).ownBlock := fun e => by have := HG2.out b6 e.symm; have := HIx.out; omega
                  have n71 : some (b6 + 1) ≠ (Value.slice a1 done.length c1).ownBlock := fun e => by have := HG1.out (b6 + 1) e.symm; have := HIx.out; omega
                  have n72 : some (b6 + 1) ≠ (Value.slice a2 done.length c2).ownBlock := fun e => by have := HG2.out (b6 + 1) e.symm; have := HIx.out; omega
                  have lt6 : b6 < W3.heap.size := World.block_lt_of_cell? W3 _ d6
                  have lt7 : b6 + 1 < W3.heap.size := World.block_lt_of_cell? W3 _ d7
                  clear HQ hx3 hit b3 HCl3 HCl2 HXr HI
                  go_upto_region 15 with fail
                  refine wp_region_new_tail (G := G2 (M + 4) (Value.slice a1 done.length c1).ownBlock (Value.slice a2 done.length c2).ownBlock ((done.map fun i => Nvv i.1) ++ [Nvv x]) ((done.map fun i => Nvv i.2) ++ [Nvv D])) (W0 := W3) 8 4 (G2.refl _ _ _ _ _) (G2.trans _ _ _ _ _) (by kernel_rfl) (by decide) (by kernel_rfl) (by kernel_rfl) (.inr (by kernel_rfl)) (G2.of_gw (Below.refl _ W3).drew) ?_
                  refine .inl ⟨.slice a1 done.length c1, fun v W hW hd => stepN_of (fun _ => trivial) (step_run rfl _ W (by clear hd; have e6 := hW.cell n61 n62 lt6 d6; go_simp) rfl (G2.refl _ _ _ _ _ _)), ?_⟩
                  simp only [Act.put, List.setIfInBounds_toArray, List.set_cons_zero, List.set_cons_succ]
                  refine .inl ⟨.int .i64 x, fun v W hW hd => stepN_of (fun _ => trivial) (step_run rfl _ W (by clear hd; go_simp) rfl (G2.refl _ _ _ _ _ _)), ?_⟩
                  simp only [Act.put, List.setIfInBounds_toArray, List.set_cons_zero, List.set_cons_succ]
                  refine .inr ⟨Bt W3 (Nvv x), fun _ _ => True, Bt.past l1 l2, fun v W hW hd => stepN_run rfl _ (W.alloc (.cells #[.int .i64 x] 3)) (by clear hd; go_simp) ⟨W.heap.size, rfl, by rw [World.cell?_alloc_new]; rfl, hW.kept.size, by simp⟩ (G2.of_gw ((Below.refl _ W).alloc (Nat.le_refl _) _)) trivial, ?_⟩
                  simp only [Act.put, List.setIfInBounds_toArray, List.set_cons_zero, List.set_cons_succ]
                  refine .inr ⟨Ap W3 (M + 4) (Value.slice a1 done.length c1).ownBlock ((done.map fun i => Nvv i.1) ++ [Nvv x]), ApF (Value.slice a1 done.length c1).ownBlock, Ap.past1 l1 l2, fun v W hW hd => ?_, ?_⟩
                  · have hq : Bt W3 (Nvv x) (v 2) W := hd 2 (by kernel_rfl)
                    clear hd
                    obtain ⟨g, e, hc, hg, hlt⟩ := hq
                    obtain ⟨v', W', hr, hA⟩ := app_num (G2.row1 hW (List.prefix_append _ _) HLow.out) 41 ⟨g, 0, none⟩ 1 (Nvv x) hc rfl (by rw [List.length_map]; omega) (Nat.le_trans HSz.out hW.kept.size)
                    have q := hA.ap (W0 := W3) hW.kept.size
                    exact stepN_run rfl v' W' (exec_append (.tmp 73) (.tmp 75) 41 rfl rfl e hr) q.1 (G2.one hA HApt.out) q.2
                  simp only [Act.put, List.setIfInBounds_toArray, List.set_cons_zero, List.set_cons_succ]
                  refine .inl ⟨.slice a2 done.length c2, fun v W hW hd => stepN_of (fun _ => trivial) (step_run rfl _ W (by clear hd; have e7 := hW.cell n71 n72 lt7 d7; go_simp) rfl (G2.refl _ _ _ _ _ _)), ?_⟩
                  simp only [Act.put, List.setIfInBounds_toArray, List.set_cons_zero, List.set_cons_succ]
                  refine .inl ⟨.int .i64 D, fun v W hW hd => stepN_of (fun _ => trivial) (step_run rfl _ W (by clear hd; go_simp) rfl (G2.refl _ _ _ _ _ _)), ?_⟩
                  simp only [Act.put, List.setIfInBounds_toArray, List.set_cons_zero, List.set_cons_succ]
                  refine .inr ⟨Bt W3 (Nvv D), fun _ _ => True, Bt.past l1 l2, fun v W hW hd => stepN_run rfl _ (W.alloc (.cells #[.int .i64 D] 3)) (by clear hd; go_simp) ⟨W.heap.size, rfl, by rw [World.cell?_alloc_new]; rfl, hW.kept.size, by simp⟩ (G2.of_gw ((Below.refl _ W).alloc (Nat.le_refl _) _)) trivial, ?_⟩
                  simp only [Act.put, List.setIfInBounds_toArray, List.set_cons_zero, List.set_cons_succ]
                  refine .inr ⟨Ap W3 (M + 4) (Value.slice a2 done.length c2).ownBlock ((done.map fun i => Nvv i.2) ++ [Nvv D]), ApF (Value.slice a2 done.length c2).ownBlock, Ap.past2 l1 l2, fun v W hW hd => ?_, ?_⟩
                  · have hq : Bt W3 (Nvv D) (v 6) W := hd 6 (by kernel_rfl)
                    clear hd
                    obtain ⟨g, e, hc, hg, hlt⟩ := hq
                    obtain ⟨v', W', hr, hA⟩ := app_num (G2.row2 hW (List.prefix_append _ _) HHigh.out) 41 ⟨g, 0, none⟩ 1 (Nvv D) hc rfl (by rw [List.length_map]; omega) (Nat.le_trans HSz.out hW.kept.size)
                    have q := hA.ap (W0 := W3) hW.kept.size
                    exact stepN_run rfl v' W' (exec_append (.tmp 77) (.tmp 79) 41 rfl rfl e hr) q.1 (G2.two hA HApt.out) q.2
                  simp only [Act.put, List.setIfInBounds_toArray, List.set_cons_zero, List.set_cons_succ]
                  intro v W hW hV hLt
                  have t3 : Ap W3 (M + 4) (Value.slice a1 done.length c1).ownBlock ((done.map fun i => Nvv i.1) ++ [Nvv x]) (v 3) W := hV 3 (by decide)
                  have t7 : Ap W3 (M + 4) (Value.slice a2 done.length c2).ownBlock ((done.map fun i => Nvv i.2) ++ [Nvv D]) (v 7) W := hV 7 (by decide)
                  have hap := ap_apart (u := v 3) (v := v 7) HApt.out l1 l2 (hLt 3 7 (by decide) (by decide) (by decide))
                  have hX4 : Nx W u0 r' := HX3.out.keep HLq.out.1 hW.kept.size fun k hk hk2 => hW.kept.block k hk2 ⟨fun e => by have := HG1.out k e.symm; omega, fun e => by have := HG2.out k e.symm; omega⟩
                  clear hV hLt
                  simp only [Nat.reduceAdd]
                  generalize v 3 = y3 at *
                  generalize v 7 = y7 at *
                  have g6 : W.heap[b6]? = some (.cells #[.slice a1 done.length c1] 41 (0, 0)) := (hW.kept.block b6 lt6 ⟨n61, n62⟩).trans HB6.out
                  have g7 : W.heap[b6 + 1]? = some (.cells #[.slice a2 done.length c2] 41 (0, 0)) := (hW.kept.block (b6 + 1) lt7 ⟨n71, n72⟩).trans HB7.out
                  obtain ⟨e6, f6⟩ := var_at g6
                  obtain ⟨e7, f7⟩ := var_at g7
                  obtain ⟨q3, z3, h3e⟩ := ow_len t3.1
                  obtain ⟨q7, z7, h7e⟩ := ow_len t7.1
                  have ln3 : ((done.map fun i => Nvv i.1) ++ [Nvv x]).length = done.length + 1 := by simp
                  have ln7 : ((done.map fun i => Nvv i.2) ++ [Nvv D]).length = done.length + 1 := by simp
                  rw [ln3] at h3e
                  rw [ln7] at h7e
                  clear ln3 ln7
                  subst h3e
                  subst h7e
                  have hm1 : (done.map fun i => Nvv i.1) ++ [Nvv x] = (done ++ [(x, D)]).map fun i => Nvv i.1 := by simp
                  have hm2 : (done.map fun i => Nvv i.2) ++ [Nvv D] = (done ++ [(x, D)]).map fun i => Nvv i.2 := by simp
                  obtain ⟨k6, K6⟩ := set_var (.slice q3 (done.length + 1) z3) g6
                  obtain ⟨k7, K7⟩ := set_var (.slice q7 (done.length + 1) z7) g7
                  have hs6 : b6 < W.heap.size := Nat.lt_of_lt_of_le lt6 hW.kept.size
                  have hs7 : b6 + 1 < W.heap.size := Nat.lt_of_lt_of_le lt7 hW.kept.size
                  have g76 := (K6.block (b6 + 1) hs7 (by omega)).trans g7
                  have g67 := (K7.block b6 hs6 (by omega)).trans g6
                  obtain ⟨k67, K67⟩ := set_var (.slice q7 (done.length + 1) z7) g76
                  obtain ⟨k76, K76⟩ := set_var (.slice q3 (done.length + 1) z3) g67
                  have hT3 := t3.1
                  have hT7 := t7.1
                  rw [hm1] at hT3
                  rw [hm2] at hT7
                  have HA : Hid (ClL w ((W.setCell ⟨b6, 0, none⟩ (.slice q3 (done.length + 1) z3)).setCell ⟨b6 + 1, 0, none⟩ (.slice q7 (done.length + 1) z7)) (M + 4) M b5 b6 (b6 + 1) neg (done ++ [(x, D)]) r' u0 (.slice q3 (done.length + 1) z3) (.slice q7 (done.length + 1) z7)) :=
                    ClL.next ⟨HIx.out.1, HIx.out.2.1, HIx.out.2.2.2⟩ ((K6.mono fun _ h => h.1).trans (K67.mono fun _ h => h.2)) ((K67.block b6 (Nat.lt_of_lt_of_le hs6 K6.size) (by omega)).trans k6) k67 hW.kept HG1.out HG2.out HThere.out H5.out HSz.out HBel.out hT3 hT7 hap hX4 HLq.out.1
                  have HA2 : Hid (ClL w ((W.setCell ⟨b6 + 1, 0, none⟩ (.slice q7 (done.length + 1) z7)).setCell ⟨b6, 0, none⟩ (.slice q3 (done.length + 1) z3)) (M + 4) M b5 b6 (b6 + 1) neg (done ++ [(x, D)]) r' u0 (.slice q3 (done.length + 1) z3) (.slice q7 (done.length + 1) z7)) :=
                    ClL.next ⟨HIx.out.1, HIx.out.2.1, HIx.out.2.2.2⟩ ((K7.mono fun _ h => h.2).trans (K76.mono fun _ h => h.1)) k76 ((K76.block (b6 + 1) (Nat.lt_of_lt_of_le hs7 K7.size) (by omega)).trans k7) hW.kept HG1.out HG2.out HThere.out H5.out HSz.out HBel.out hT3 hT7 hap hX4 HLq.out.1
                  have HRn : Hid ((Gb.nxt (decide (done ++ [(x, D)] = [])) r').map (fun x_1 => (done ++ [(x, D)] ++ x_1.1, x_1.2)) = Z) := by
                    show _ = _
                    have h1 := HR.out
                    rw [HB.out, HIt.out] at h1
                    rw [← h1, decide_eq_false (by simp)]
                    simp only [Option.bind_some, Option.map_map]
                    cases Gb.nxt false r' with
                    | none => rfl
                    | some y => simp
                  have HLnn : Hid ((done ++ [(x, D)]).length + r'.length ≤ L.length) := by
                    show _ ≤ _
                    have := HLn.out
                    rw [List.length_append, List.length_singleton]
                    omega
                  clear k6 K6 k7 K7 g76 g67 k67 K67 k76 K76 hT3 hT7 hm1 hm2 t3 t7 hap hX4
                  have e76 : (W.setCell ⟨b6, 0, none⟩ (.slice q3 (done.length + 1) z3)).cell? ⟨b6 + 1, 0, none⟩ = some (.slice a2 done.length c2) := by
                    rw [World.cell?_setCell_other _ _ _ _ (fun q => by have := (Addr.mk.inj q).1; omega)]; exact e7
                  have f76 : (W.setCell ⟨b6, 0, none⟩ (.slice q3 (done.length + 1) z3)).frozen? ⟨b6 + 1, 0, none⟩ = false := by
                    rw [World.frozen?_setCell]; exact f7
                  have e67 : (W.setCell ⟨b6 + 1, 0, none⟩ (.slice q7 (done.length + 1) z7)).cell? ⟨b6, 0, none⟩ = some (.slice a1 done.length c1) := by
                    rw [World.cell?_setCell_other _ _ _ _ (fun q => by have := (Addr.mk.inj q).1; omega)]; exact e6
                  have f67 : (W.setCell ⟨b6 + 1, 0, none⟩ (.slice q7 (done.length + 1) z7)).frozen? ⟨b6, 0, none⟩ = false := by
                    rw [World.frozen?_setCell]; exact f6
                  refine wpAny_ready (rs := [8]) (by kernel_rfl) (by simp) ?_
                  refine AllReady.cons rfl (fun K hK => ?_) AllReady.nil
                  rw [if_pos (by rfl)]
                  go_simp
                  refine hK _ _ ?_
                  clear hK K
                  refine wpAny_ready (rs := [9]) (by kernel_rfl) (by simp) ?_
                  refine AllReady.cons rfl (fun K hK => ?_) AllReady.nil
                  rw [if_pos (by rfl)]
                  go_simp
                  refine hK _ _ ?_
                  clear hK K
                  refine wpAny_done (by kernel_rfl) ?_ _
                  generalize World.setCell _ _ _ = W9 at HA ⊢
                  go_wp2_with fail
                  go_roundg (r'.length + 1)
                  case rel => exact ⟨done ++ [(x, D)], r', _, _, rfl, HA, HRn, HLnn, HLq⟩
                  case measure => omega
        · have hd : done ≠ [] := fun q => hbody (.inl q)
          have hrm : rem = [] ∨ rem.head? = some 93 := by
            by_cases q : rem = []
            · exact .inl q
            · exact .inr (Decidable.byContradiction fun q2 => hbody (.inr ⟨q, q2⟩))
          have hz : ((done.length : Int) == 0) = false := by
            rw [beq_eq_false_iff_ne]
            have := List.length_pos_iff.2 hd
            omega
          have HD0 : Hid (done ≠ []) := hd
          clear hbody hd
          obtain ⟨K, hKe⟩ : ∃ K, K = rem.length := ⟨_, rfl⟩
          have HKe : Hid (K = rem.length) := hKe
          have HXr : Hid (Nx wr (.slice a0 K c0) rem) := by rw [hKe]; exact HCl.out.rest
          rw [← hKe] at hlen HCl HLb ⊢
          clear hKe
          go_upto_region 5 with fail
          go_cut [37] from 24 to 36 (fun x wx => x = .bool false ∧ wx = wr)
          case first =>
            cases rem with
            | nil =>
              have hr : ¬ (0 : Int) < (K : Int) := by rw [HKe.out]; simp
              clear HR HLn HCl HXr
              go_wp2_with fail
              go_meet
              exact ⟨rfl, rfl⟩
            | cons y r =>
              have hy : y = 93 := by
                rcases hrm with q | q
                · cases q
                · rw [List.head?_cons] at q; exact Option.some.inj q
              obtain ⟨bk, o, rfl, hbk, _, e0⟩ := HXr.out.get 0 (by simp)
              have e0 : wr.cell? ⟨bk, o, none⟩ = some (.int .i64 93) := by rw [hy] at e0; exact e0
              have hr : (0 : Int) < (K : Int) := by rw [HKe.out, List.length_cons]; omega
              clear HR HLn HCl HXr hrm
              go_wp2_with fail
              go_meet
              exact ⟨rfl, rfl⟩
          case rest =>
            obtain ⟨rfl, hw⟩ := hcut
            have hw3 := hw.symm
            clear hw
            subst hw3
            cases rem with
            | nil =>
              have hK0 : K = 0 := HKe.out
              have HF : Hid (Z = none) := by
                have := HR.out
                rw [decide_eq_false HD0.out] at this
                exact this.symm
              obtain ⟨m0, m1, f0, f1⟩ := mark_at HCl.out.there
              obtain ⟨s0, s1⟩ := mark_same HCl.out.there
              have HBl : Hid (Below w.heap.size w wr) := HCl.out.bel
              clear HCl HR HXr HLn hrm HLb
              subst hK0
              go_wp2_with fail
              refine bodyPost_ret (v := .tuple #[.agg #[.bool false, .nilFunc], .slice none 0 0, .bool false]) ?_ rfl ⟨HBl.out, .inl ⟨by rw [HZ.out, HF.out]; rfl, rfl⟩⟩
              simp [results, asAddr, go_sem, m0, m1]
            | cons y r =>
              have hy : y = 93 := by
                rcases hrm with q | q
                · cases q
                · rw [List.head?_cons] at q; exact Option.some.inj q
              subst hy
              have HF : Hid (Z = some (done, r)) := by
                have := HR.out
                rw [decide_eq_false HD0.out] at this
                show _ = _
                rw [← this]
                simp [Gb.nxt]
              obtain ⟨bk, o, rfl, hbk, hc1, _⟩ := HXr.out.get 0 (by simp)
              have hXw := HXr.out
              have hN1 : K = r.length + 1 := HKe.out
              rw [List.length_cons, ← hN1] at hc1
              rw [hN1] at hXw
              have HD := Nx.drop (n := r.length) 1 hXw (by simp)
              obtain ⟨A1, hA1⟩ : ∃ A1, (if c0 = 1 then some (⟨bk, o, none⟩ : Addr) else some ⟨bk, o + 1, none⟩) = A1 := ⟨_, rfl⟩
              rw [hA1, ← show K - 1 = r.length from by omega] at HD
              have HXd : Hid (Nx wr (.slice A1 (K - 1) (c0 - 1)) r) := HD
              have HL3 : Hid (∀ B, Lb B (.slice a N c) → Lb B (.slice A1 (K - 1) (c0 - 1))) := fun B hB => (HLb.out.2 B hB).drop hA1 (by omega)
              have HLM : Hid (Lb M (.slice A1 (K - 1) (c0 - 1))) := HLb.out.1.drop hA1 (by omega)
              have q0 : ((K : Int) == 0) = false := by rw [beq_eq_false_iff_ne]; omega
              have q1 : (1 : Int) ≤ (K : Int) := by omega
              have q2 : (K : Int) ≤ (c0 : Int) := by omega
              obtain ⟨m0, m1, f0, f1⟩ := mark_at HCl.out.there
              clear HD hXw hN1 HXr HR HLn hrm HLb
              go_upto_region 18 with fail
              have HIx2 := HIx
              have m1' : (wr.setCell ⟨M, 0, none⟩ (.bool false)).cell? ⟨M, 1, none⟩ = some .nilFunc := by
                rw [(mark_same HCl.out.there).1]; exact m1
              have f1' : (wr.setCell ⟨M, 0, none⟩ (.bool false)).frozen? ⟨M, 1, none⟩ = false := by
                rw [(mark_same HCl.out.there).1]; exact f1
              go_region
              clear m0 m1 f0 f1 m1' f1'
              rw [(mark_same HCl.out.there).1]
              generalize hW9 : (wr.setCell ⟨M, 1, none⟩ _).drew = W9
              have HK : Kept (fun k => k ≠ M) wr W9 := by rw [← hW9]; exact ((Kept.refl _ wr).setCell (fun h => h rfl) _).drew
              have mm : W9.heap[M]? = some (.cells #[.bool false, .func (.func 60) #[] #[Pt b6, Pt (b6 + 1), Pt b5]] 71 (0, 0)) := by
                rw [← hW9]
                simp [World.drew, World.setCell, Array.getElem?_modify, HCl.out.there, Pt]
              clear hW9
              obtain ⟨m0, m1, _, _⟩ := mark_at mm
              have hi := HIx.out
              have hlM : M ≤ wr.heap.size := Nat.le_trans (by omega) HCl.out.sz
              have hBw : Below M wr W9 := HK.below hlM fun k hk => by omega
              have HBl : Hid (Below w.heap.size w W9) := HCl.out.bel.trans (hBw.mono (by omega))
              have hsz := HCl.out.sz
              have hs9 := HK.size
              have HFn : Hid (FnT W9 (.func (.func 60) #[] #[Pt b6, Pt (b6 + 1), Pt b5]) (neg, done)) := by
                refine fn_class ⟨(HK.block _ (Array.getElem?_eq_some_iff.1 HCl.out.c5).1 (by omega)).trans HCl.out.c5, ⟨_, (HK.block _ (Array.getElem?_eq_some_iff.1 HCl.out.c6).1 (by omega)).trans HCl.out.c6, ?_⟩, ⟨_, (HK.block _ (Array.getElem?_eq_some_iff.1 HCl.out.c7).1 (by omega)).trans HCl.out.c7, ?_⟩⟩ (by omega)
                · have q := own_kept HCl.out.low HK fun g hg => by obtain ⟨_, _, q, _⟩ := own_block HCl.out.low hg; omega
                  exact nt_of_own (base := M + 4) (by rw [List.map_map, List.length_map]; rw [List.length_map] at q; exact q)
                · have q := own_kept HCl.out.high HK fun g hg => by obtain ⟨_, _, q, _⟩ := own_block HCl.out.high hg; omega
                  exact nt_of_own (base := M + 4) (by rw [List.map_map, List.length_map]; rw [List.length_map] at q; exact q)
              have HX9 : Hid (Nx W9 (.slice A1 (K - 1) (c0 - 1)) r) := HXd.out.keep HLM.out hs9 fun k h1 h2 => HK.block k h2 (by omega)
              clear HK mm hi hlM hBw hsz hs9 HCl HXd HLM
              go_wp2_with fail
              refine bodyPost_ret (v := .tuple #[.agg #[.bool false, .func (.func 60) #[] #[Pt b6, Pt (b6 + 1), Pt b5]], .slice A1 (K - 1) (c0 - 1), .bool true]) ?_ rfl ⟨HBl.out, .inr ⟨(neg, done), r, _, _, by rw [HZ.out, HF.out]; rfl, rfl, HFn.out, HX9.out, HL3.out⟩⟩
              simp [results, asAddr, go_sem, m0, m1]
end Go.Proofs.YtfcnlfblfennaaaDoor

namespace Go.Proofs.YtfcnlfblfennaaaDoor
open Go.RowKit

/-- a function value of one number, of two numbers, from a world on -/
def Fn1 (w : World) (v : Value) (n : Nat) (f : Nat → Bool) : Prop :=
  ∃ g caps, v = .func (.func g) #[] caps ∧ Ent g ∧ ∀ W, Gw w W → ∀ i : Nat, i < n → Calls Tryd.prog g (#[.int .i64 i] ++ caps) W fun e w' => e = .returned (.bool (f i)) ∧ Below W.heap.size W w'
def Fn2 (w : World) (v : Value) (n m : Nat) (any : Nat → Bool) (f : Nat → Nat → Bool) : Prop :=
  ∃ g caps, v = .func (.func g) #[] caps ∧ Ent g ∧ ∀ W, Gw w W → ∀ i k : Nat, i < n → k < m → any i = false → Calls Tryd.prog g (#[.int .i64 i, .int .i64 k] ++ caps) W fun e w' => e = .returned (.bool (f i k)) ∧ Below W.heap.size W w'
set_option maxHeartbeats 4000000 in
set_option maxRecDepth 10000 in
theorem table_any (n steps : Nat) (va vo : Value) (any : Nat → Bool) (one : Nat → Nat → Bool) (w : World) (ha : Fn1 w va steps any) (ho : Fn2 w vo steps n any one) (hn : n ≤ 4194304) (hs : steps ≤ 4194304) :
    Calls Tryd.prog 47 #[.int .i64 n, .int .i64 steps, va, vo] w fun e w' => e = .returned (.bool (Gb.tab any one steps n)) ∧ Below w.heap.size w w' := by
  obtain ⟨ga, ca, rfl, hea, ha⟩ := ha
  unfold Ent at hea
  obtain ⟨go, co, rfl, heo, ho⟩ := ho
  unfold Ent at heo
  have HA : Hid (∀ W, Gw w W → ∀ i : Nat, i < steps → Calls Tryd.prog ga (#[.int .i64 i] ++ ca) W fun e w' => e = .returned (.bool (any i)) ∧ Below W.heap.size W w') := ha
  have HO : Hid (∀ W, Gw w W → ∀ i k : Nat, i < steps → k < n → any i = false → Calls Tryd.prog go (#[.int .i64 i, .int .i64 k] ++ co) W fun e w' => e = .returned (.bool (one i k)) ∧ Below W.heap.size W w') := ho
  clear ha ho
  obtain ⟨i0, hi, hz0, hz1, hz2⟩ := info_is info_bool
  go_enter Tryd.func47, Tryd.ntmps47
  go_wp2_with (at_make; refine wpList_make_full _ rfl (.tmp 14) (.tmp 14) 80 rfl w.heap.size 4 i0 (.bool false) 1 Tryd.underlying80 hi hz0 hz1 .i64 .i64 _ _ (n + 1) rfl rfl (by omega) (by omega) (by rw [hz2]; omega) (by unfold maxLen; omega) (Nat.le_refl _) ?_; intro w1 hown hgrow; have hn0 : (0 : Int) < (n : Int) + 1 := (by omega); have hb0 := Br.made hown; have c0 : w1.cell? ⟨w.heap.size, 0, none⟩ = some (.bool false) := (hb0.cell (Nat.zero_le n)); have f0 := hb0.frozen 0)
  have HB1 : Hid (Below w.heap.size w w1) := (Below.refl _ _).grown hgrow (Nat.le_refl _) (fun k hk => by cases hk)
  clear hown hgrow
  have HBr : Hid (Br (w1.setCell ⟨w.heap.size, 0, none⟩ (.bool true)) w.heap.size n (Gb.tab any one 0)) := (hb0.set 0 true).congr fun k _ => by
    show (if k = 0 then true else false) = (k == 0)
    cases k <;> rfl
  have HBs : Hid (Below w.heap.size w (w1.setCell ⟨w.heap.size, 0, none⟩ (.bool true))) := below_set HB1.out (Nat.le_refl _) _ _
  clear hb0 c0 f0
  generalize w1.setCell _ _ = w2 at HBr HBs ⊢
  go_loopw [9, 19] (fun v9 x wr => ∃ i b : Nat, i ≤ steps ∧ x = .int .i64 i ∧ v9 = .slice (some ⟨b, 0, none⟩) (n + 1) (n + 1) ∧ Hid (w.heap.size ≤ b) ∧ Hid (Br wr b n (Gb.tab any one i)) ∧ Hid (Below w.heap.size w wr)) (fun _ x _ => steps - (intOf x).toNat)
  case atStart => exact ⟨0, _, by omega, rfl, rfl, Nat.le_refl _, HBr, HBs⟩
  case round =>
    clear HBr HBs HB1
    obtain ⟨i, b, his, rfl, rfl, hwb, HBr, HBs⟩ := hrel
    by_cases hlt : i < steps
    · go_wp2_with (at_make; refine wpList_make_full _ rfl (.tmp 23) (.tmp 23) 80 rfl wr.heap.size 4 i0 (.bool false) 1 Tryd.underlying80 hi hz0 hz1 .i64 .i64 _ _ (n + 1) rfl rfl (by omega) (by omega) (by rw [hz2]; omega) (by unfold maxLen; omega) (Nat.le_refl _) ?_; intro w3 hown hgrow)
      have hb0 := Br.made hown
      have hB3 : Below wr.heap.size wr w3 := (Below.refl _ _).grown hgrow (Nat.le_refl _) (fun k hk => by cases hk)
      clear hown hgrow
      have HI3 : Hid (Br w3 b n (Gb.tab any one i) ∧ Br w3 wr.heap.size n (fun j => decide (j < 0) && Gb.row (any i) (Gb.tab any one i) (one i) j) ∧ Below w.heap.size w w3) :=
        ⟨HBr.out.below hB3, hb0.congr fun k _ => by simp, HBs.out.trans (hB3.mono HBs.out.size)⟩
      have Hap : Hid (b ≠ wr.heap.size ∧ w.heap.size ≤ wr.heap.size) := ⟨by have := HBr.out.lt; omega, HBs.out.size⟩
      clear hb0 hB3 HBr HBs
      generalize wr.heap.size = b2 at *
      go_wp2_with fail
      go_loopw [27] (fun x wq => ∃ k : Nat, k ≤ n + 1 ∧ x = .int .i64 k ∧ Hid (Br wq b n (Gb.tab any one i) ∧ Br wq b2 n (fun j => decide (j < k) && Gb.row (any i) (Gb.tab any one i) (one i) j) ∧ Below w.heap.size w wq)) (fun x _ => n + 1 - (intOf x).toNat)
      case atStart => exact ⟨0, by omega, rfl, HI3⟩
      case round =>
        clear HI3
        obtain ⟨k, hk, rfl, HI⟩ := hrel
        by_cases hlt2 : k < n + 1
        · have hp := HA.out wr HI.out.2.2 i hlt
          go_wp2_with fail
          refine hp.mono ?_
          rintro e w4 ⟨rfl, hb4⟩
          clear hp
          have HBr4 : Hid (Br w4 b n (Gb.tab any one i)) := HI.out.1.below hb4
          have HBn4 : Hid (Br w4 b2 n (fun j => decide (j < k) && Gb.row (any i) (Gb.tab any one i) (one i) j)) := HI.out.2.1.below hb4
          have HBe4 : Hid (Below w.heap.size w w4) := HI.out.2.2.trans (hb4.mono HI.out.2.2.size)
          clear HI hb4
          obtain ⟨an, HAn⟩ : ∃ an, Hid (any i = an) := ⟨_, rfl⟩
          rw [HAn.out]
          have hkn : k ≤ n := by omega
          have ck : w4.cell? ⟨b2, k, none⟩ = some (.bool false) := by
            rw [HBn4.out.cell hkn, decide_eq_false (Nat.lt_irrefl k)]; rfl
          have fk := HBn4.out.frozen k
          have Hnext : Hid (∀ W (x : Bool), Br W b n (Gb.tab any one i) → Br W b2 n (fun j => decide (j < k) && Gb.row (any i) (Gb.tab any one i) (one i) j) → Below w.heap.size w W → x = Gb.row (any i) (Gb.tab any one i) (one i) k →
              Br (W.setCell ⟨b2, k, none⟩ (.bool x)) b n (Gb.tab any one i) ∧ Br (W.setCell ⟨b2, k, none⟩ (.bool x)) b2 n (fun j => decide (j < k + 1) && Gb.row (any i) (Gb.tab any one i) (one i) j) ∧ Below w.heap.size w (W.setCell ⟨b2, k, none⟩ (.bool x))) := by
            intro W x q1 q2 q3 q4
            refine ⟨q1.other (fun e => Hap.out.1 e.symm) _ _, (q2.set k x).congr fun j hj => ?_, below_set q3 Hap.out.2 _ _⟩
            by_cases e : j = k
            · subst e
              simp [q4]
            · rw [if_neg e]
              congr 1
              rw [Bool.eq_iff_iff, decide_eq_true_eq, decide_eq_true_eq]
              omega
          have cn := HBr4.out.cell hkn
          obtain ⟨t, HT⟩ : ∃ t, Hid (Gb.tab any one i k = t) := ⟨_, rfl⟩
          rw [HT.out] at cn
          have hk0 : (k : Int) < (n : Int) + 1 := by omega
          cases an with
          | true =>
            cases t with
            | true =>
              have HN := (show Hid _ from Hnext.out w4 true HBr4.out HBn4.out HBe4.out (by cases k <;> simp [Gb.row, HAn.out, HT.out]))
              clear Hnext HBr4 HBn4 HBe4
              go_wp2_with fail
              go_roundw
              case measure => simp only [intOf]; omega
              case rel => exact ⟨k + 1, by omega, by go_num, HN⟩
            | false =>
              cases k with
              | zero =>
                have HN := (show Hid _ from Hnext.out w4 false HBr4.out HBn4.out HBe4.out (by simp [Gb.row, HAn.out, HT.out]))
                clear Hnext HBr4 HBn4 HBe4
                go_wp2_with fail
                go_roundw
                case measure => simp only [intOf]; omega
                case rel => exact ⟨0 + 1, by omega, by go_num, HN⟩
              | succ j =>
                have cp := HBn4.out.cell (show j ≤ n by omega)
                rw [decide_eq_true (Nat.lt_succ_self j), Bool.true_and] at cp
                obtain ⟨r, HR⟩ : ∃ r, Hid (Gb.row (any i) (Gb.tab any one i) (one i) j = r) := ⟨_, rfl⟩
                rw [HR.out] at cp
                have HN := (show Hid _ from Hnext.out w4 r HBr4.out HBn4.out HBe4.out (by simp [Gb.row, HAn.out, HT.out] at HR ⊢; exact HR.out.symm))
                clear Hnext HBr4 HBn4 HBe4
                go_wp2_with fail
                go_roundw
                case measure => simp only [intOf]; omega
                case rel => exact ⟨(j + 1) + 1, by omega, by go_num, HN⟩
          | false =>
            clear cn
            cases k with
            | zero =>
              have HN := (show Hid _ from Hnext.out w4 false HBr4.out HBn4.out HBe4.out (by simp [Gb.row, HAn.out]))
              clear Hnext HBr4 HBn4 HBe4
              go_wp2_with fail
              go_roundw
              case measure => simp only [intOf]; omega
              case rel => exact ⟨0 + 1, by omega, by go_num, HN⟩
            | succ j =>
              have cj := HBr4.out.cell (show j ≤ n by omega)
              obtain ⟨t2, HT2⟩ : ∃ t2, Hid (Gb.tab any one i j = t2) := ⟨_, rfl⟩
              rw [HT2.out] at cj
              cases t2 with
              | false =>
                have HN := (show Hid _ from Hnext.out w4 false HBr4.out HBn4.out HBe4.out (by simp [Gb.row, HAn.out, HT2.out]))
                clear Hnext HBr4 HBn4 HBe4
                go_wp2_with fail
                go_roundw
                case measure => simp only [intOf]; omega
                case rel => exact ⟨(j + 1) + 1, by omega, by go_num, HN⟩
              | true =>
                have hp2 := HO.out w4 HBe4.out i j hlt (by omega) HAn.out
                go_wp2_with fail
                refine hp2.mono ?_
                rintro e w5 ⟨rfl, hb5⟩
                have HBr5 : Hid (Br w5 b n (Gb.tab any one i)) := HBr4.out.below hb5
                have HBn5 : Hid (Br w5 b2 n (fun l => decide (l < j + 1) && Gb.row (any i) (Gb.tab any one i) (one i) l)) := HBn4.out.below hb5
                have HBe5 : Hid (Below w.heap.size w w5) := HBe4.out.trans (hb5.mono HBe4.out.size)
                have ck5 : w5.cell? ⟨b2, j + 1, none⟩ = some (.bool false) := by
                  rw [HBn5.out.cell hkn, decide_eq_false (Nat.lt_irrefl (j + 1))]; rfl
                have fk5 := HBn5.out.frozen (j + 1)
                clear hp2 hb5 ck fk cj HBr4 HBn4 HBe4
                have HN := (show Hid _ from Hnext.out w5 (one i j) HBr5.out HBn5.out HBe5.out (by simp [Gb.row, HAn.out, HT2.out]))
                clear Hnext HBr5 HBn5 HBe5
                generalize one i j = on at *
                go_wp2_with fail
                go_roundw
                case measure => simp only [intOf]; omega
                case rel => exact ⟨(j + 1) + 1, by omega, by go_num, HN⟩
        · obtain rfl : k = n + 1 := by omega
          have HB9 : Hid (Br wr b2 n (Gb.tab any one (i + 1))) := HI.out.2.1.congr fun j hj => by
            rw [decide_eq_true (by omega), Bool.true_and]; rfl
          have HE9 : Hid (Below w.heap.size w wr) := HI.out.2.2
          clear HI
          go_wp2_with fail
          go_roundw
          case measure => simp only [intOf]; omega
          case rel => exact ⟨i + 1, b2, by omega, by go_num, rfl, Hap.out.2, HB9, HE9⟩
    · obtain rfl : i = steps := by omega
      have cn := HBr.out.cell (Nat.le_refl n)
      have hk0 : (n : Int) < (n : Int) + 1 := by omega
      have HBe : Hid (Below w.heap.size w wr) := HBs.out
      clear HBr HBs
      obtain ⟨t, HT⟩ : ∃ t, Hid (Gb.tab any one i n = t) := ⟨_, rfl⟩
      rw [HT.out] at cn
      go_wp2_with fail
      go_ret
      exact ⟨by rw [HT.out]; rfl, HBe.out⟩
end Go.Proofs.YtfcnlfblfennaaaDoor

namespace Go.Proofs.YtfcnlfblfennaaaDoor
open Go.RowKit

/-- a sign as it lies in memory (none: a star) -/
def MkR (w : World) (t : Option Gb.Tst) (c : List Value) : Prop :=
  match t with
  | none => c = [.bool true, .nilFunc]
  | some t => ∃ f caps, c = [.bool false, .func (.func f) #[] caps] ∧ FnT w (.func (.func f) #[] caps) t
abbrev Mks (w : World) (v : Value) (l : List (Option Gb.Tst)) : Prop := Ry 2 71 MkR w v l
theorem MkR.gt {w W : World} {t : Option Gb.Tst} {c : List Value} (hg : Gt w W) (h : MkR w t c) : MkR W t c := by
  cases t with
  | none => exact h
  | some t =>
    obtain ⟨f, caps, e, q⟩ := h
    exact ⟨f, caps, e, q.past hg⟩
theorem MkR.below {w W : World} {t : Option Gb.Tst} {c : List Value} (h : MkR w t c) (hb : Below w.heap.size w W) : MkR W t c := h.gt (Gt.of_below hb)
theorem Mks.below {w W : World} {v : Value} {l : List (Option Gb.Tst)} (h : Mks w v l) (hb : Below w.heap.size w W) : Mks W v l := Ry.below h hb fun _ _ q => q.below hb
/-- numbers that lie below a block lay there before -/
theorem nx_back {w W : World} {v : Value} {l : List Nat} (h : Nx W v l) (hv : Lb w.heap.size v) (hb : Below w.heap.size w W) : Nx w v l := by
  rcases h.at_ with h | ⟨bk, o, cap, h1, h2, h3, h4⟩
  · exact ⟨.inl h⟩
  · cases l with
    | nil => exact ⟨.inl ⟨⟨_, _, h1⟩, rfl⟩⟩
    | cons x l =>
      have hlt : bk < w.heap.size := hv _ _ _ h1 (by simp)
      refine ⟨.inr ⟨bk, o, cap, h1, hlt, h3, fun j hj => ?_⟩⟩
      rw [← h4 j hj]
      exact (hb.cell (p := ⟨bk, o + j, none⟩) hlt).symm
theorem info_mark : (Tryd.prog.info? 71).map (fun i => (i.zero, i.size, i.bytes)) = some (some (.agg #[.bool false, .nilFunc]), 2, 16) := by kernel_rfl
theorem Gb.sgn_cons' (c : Nat) (l : List Nat) : Gb.sgn (c :: l) = if c = 42 then some (none, l) else if c = 63 then some (some Gb.anyc, l) else if c = 91 then (Gb.cls l).map (fun x => (some x.1, x.2)) else (Gb.rc (c :: l)).map fun x => (some (Gb.just x.1), x.2) := rfl
theorem cell_last (W : World) (n : Nat) (hn : W.heap.size = n) (x y : Value) (T : TypeId) : (W.alloc (.cells #[x, y] T)).cell? ⟨n, 0, none⟩ = some x ∧ (W.alloc (.cells #[x, y] T)).cell? ⟨n, 1, none⟩ = some y := by
  subst hn
  rw [World.cell?_alloc_new, World.cell?_alloc_new]
  exact ⟨rfl, rfl⟩
/-- what marks answers -/
def MsOut (l : List Nat) (w : World) (e : Ending) (w' : World) : Prop :=
  Below w.heap.size w w' ∧ ((Gb.sgs l = none ∧ e = .returned (.tuple #[.slice none 0 0, .bool false])) ∨
    ∃ (m : List (Option Gb.Tst)) (v : Value), Gb.sgs l = some m ∧ e = .returned (.tuple #[v, .bool (decide (m ≠ []))]) ∧ Mks w' v m ∧ (m ≠ [] → ∃ a n c, v = .slice (some a) n c))

set_option maxHeartbeats 4000000 in
set_option maxRecDepth 10000 in
theorem marks_any (v : Value) (l : List Nat) (w : World) (h : Nx w v l) (hl : l.length ≤ 1048576) :
    Calls Tryd.prog 22 #[v] w (MsOut l w) := by
  have HX0 : Hid (Nx w v l ∧ Lb w.heap.size v) := ⟨h, h.lb (Nat.le_refl _)⟩
  have HLn : Hid (l.length ≤ 1048576) := hl
  obtain ⟨Z, hZ⟩ : ∃ Z, Gb.sgs l = Z := ⟨_, rfl⟩
  have HZ : Hid (Gb.sgs l = Z) := hZ
  have HR : Hid ((Gb.sgs l).map (fun x => ([] : List (Option Gb.Tst)) ++ x) = Z) := by
    show _ = _
    rw [hZ]; cases Z <;> rfl
  obtain ⟨i0, hi, hz0, hz1, hz2⟩ := info_is info_mark
  clear h hl hZ
  go_enter Tryd.func22, Tryd.ntmps22
  go_wp2_with fail
  go_loopg [0, 4] (l.length + 1) (fun g v0 v4 wr => ∃ (done : List (Option Gb.Tst)) (rem : List Nat), g = rem.length + 1 ∧ Hid (Nx w v0 rem ∧ Lb w.heap.size v0) ∧ Hid (Oy 2 71 MkR w.heap.size wr v4 done) ∧ Hid ((Gb.sgs rem).map (fun x => done ++ x) = Z) ∧ Hid (done.length + rem.length ≤ l.length) ∧ Hid (Below w.heap.size w wr))
  case atStart => exact ⟨[], l, rfl, HX0, Oy.nil, HR, by show _ ≤ _; simp, Below.refl _ _⟩
  case round =>
    clear HX0 HR
    obtain ⟨done, rem, rfl, HX, HO, HR, HDl, HB⟩ := hrel
    cases rem with
    | nil =>
      obtain ⟨a5, c5, rfl⟩ := HX.out.1.slice
      have HA : Hid (Z = some done) := by
        show _ = _
        rw [← HR.out, Gb.sgs_nil]; simp
      have HM : Hid (Mks wr u4 done) := HO.out.ry
      have HNn : Hid (done ≠ [] → ∃ a n c, u4 = .slice (some a) n c) := fun hd => by
        obtain ⟨cs, o1, _⟩ := HO.out
        obtain ⟨g, c, e, _⟩ := own_some o1 (List.length_pos_iff.2 hd)
        exact ⟨_, _, _, e⟩
      obtain ⟨a4, c4, rfl⟩ := HM.out.slice
      obtain ⟨K, hK⟩ : ∃ K, K = done.length := ⟨_, rfl⟩
      have HK : Hid (K = done.length) := hK
      rw [← hK] at HM HNn ⊢
      simp only [List.length_nil]
      clear hK HR HDl HO HX
      go_wp2_with fail
      go_ret2
      refine ⟨HB.out, .inr ⟨done, _, by rw [HZ.out, HA.out], ?_, HM.out, HNn.out⟩⟩
      have e : decide (done ≠ []) = decide (0 < K) := by
        rw [HK.out]
        cases done with
        | nil => rfl
        | cons x d => simp
      rw [e]
      rfl
    | cons x t =>
      have HSt : Hid (Z = (Gb.sgn (x :: t)).bind fun y => ((Gb.sgs y.2).map (y.1 :: ·)).map fun z => done ++ z) := by
        show _ = _
        rw [← HR.out, Gb.sgs_step (by simp)]
        cases Gb.sgn (x :: t) <;> rfl
      obtain ⟨a5, c5, rfl⟩ := HX.out.1.slice
      obtain ⟨bk, o, rfl, hbk, hcap, c0⟩ := HX.out.1.get 0 (by simp)
      have c0 : wr.cell? ⟨bk, o, none⟩ = some (.int .i64 x) := (HB.out.cell (p := ⟨bk, o, none⟩) hbk).trans c0
      have hbw : bk < wr.heap.size := Nat.lt_of_lt_of_le hbk HB.out.size
      simp only [List.length_cons] at HX hcap HDl ⊢
      have HT := Nx.drop (n := t.length) 1 HX.out.1 (by simp)
      obtain ⟨A1, hA1⟩ : ∃ A1, (if c5 = 1 then some (⟨bk, o, none⟩ : Addr) else some ⟨bk, o + 1, none⟩) = A1 := ⟨_, rfl⟩
      rw [hA1] at HT
      have HTh : Hid (Nx w (.slice A1 t.length (c5 - 1)) t ∧ Lb w.heap.size (.slice A1 t.length (c5 - 1))) := ⟨HT, HX.out.2.drop hA1 (by omega)⟩
      have q1 : (1 : Int) ≤ (t.length : Int) + 1 := by omega
      have q0 : (0 : Int) < (t.length : Int) + 1 := by omega
      have hsw := HB.out.size
      have HS := Gb.sgn_cons' x t
      generalize hnt : t.length = n at *
      have HNt : Hid (t.length = n) := hnt
      clear HR hnt HT
      by_cases h42 : x = 42
      · rw [if_pos h42] at HS
        have HE : Hid (((Gb.sgs t).map (none :: ·)).map (fun z => done ++ z) = Z) := by
          show _ = _
          rw [HSt.out, HS]; rfl
        subst h42
        obtain ⟨cc, o1, o2, o3, o4⟩ := HO.out
        have HO2 : Hid ((∀ c ∈ cc, c.length = 2) ∧ cc.length = done.length ∧ ∀ (j : Nat) t c, done[j]? = some t → cc[j]? = some c → MkR wr t c) := ⟨o2, o3, o4⟩
        have hdl : done.length ≤ 1048576 := by have := HDl.out; have := HLn.out; omega
        clear HS HSt o2 o3 o4 HO HX
        go_wp2_with (at_builtin; refine wpList_append_own _ rfl (.tmp 48) (.tmp 50) 45 rfl w.heap.size 71 i0 (.agg #[.bool false, .nilFunc]) 2 16 Tryd.underlying45 hi hz0 hz1 hz2 rfl (by decide) _ _ _ rfl (((o1.alloc _).alloc _).alloc _) ⟨wr.heap.size + 1 + 1, 0, none⟩ 1 1 [.bool true, .nilFunc] rfl rfl ?c1 ?c2 ?c3 ?c4 ?c5 ?_)
        case c1 =>
          intro j u hj
          match j, hj with
          | 0, hj => simp at hj; subst hj; rw [add_at]; exact (cell_last _ _ (by simp) _ _ _).1
          | 1, hj => simp at hj; subst hj; rw [add_at]; exact (cell_last _ _ (by simp) _ _ _).2
        case c2 =>
          intro u hu
          simp only [List.mem_cons, List.not_mem_nil, or_false] at hu
          rcases hu with rfl | rfl <;> rfl
        case c3 => unfold maxLen; omega
        case c4 => omega
        case c5 => simp; omega
        intro v6 w4 hown4 hgrow _
        have hkW : Kt 71 ((wr.alloc (.cells #[.int .i64 42] 3)).alloc (.cells ([.bool true, .nilFunc]).toArray 71)) w4 := ((Kt.refl _ _).alloc _).trans (Kt.of_grown hgrow fun g hg => by
          obtain ⟨cur, q, _⟩ := own_block (((o1.alloc _).alloc _).alloc _) hg
          exact ⟨cur, _, q⟩)
        have hgW : Gt ((wr.alloc (.cells #[.int .i64 42] 3)).alloc (.cells ([.bool true, .nilFunc]).toArray 71)) w4 := Gt.of_kt hkW (by decide) (by decide) (by decide)
        have hg4 : Gt wr w4 := (Gt.of_below (((Below.refl _ wr).alloc (Nat.le_refl _) _).alloc (by simp) _)).trans hgW
        have HB4 : Hid (Below w.heap.size w w4) := (((HB.out.alloc hsw _).alloc (by simp; omega) _).alloc (by simp; omega) _).grown hgrow (by simp; omega) fun g hg => by
          obtain ⟨_, _, q, _⟩ := own_block o1 hg
          exact q
        have HOn : Hid (Oy 2 71 MkR w.heap.size w4 v6 (done ++ [none])) := Oy.more HO2.out.1 HO2.out.2.1 (fun j t c a b => (HO2.out.2.2 j t c a b).gt hg4) hown4 rfl (rfl)
        clear hown4 hgrow hkW hgW hg4 o1 HO2
        go_wp2_with fail
        go_roundg (n + 1)
        case measure => have := HNt.out; simp only [List.length_cons]; omega
        case rel =>
          refine ⟨done ++ [none], t, by rw [HNt.out], HTh, HOn, ?_, ?_, HB4⟩
          · show _ = _
            rw [← HE.out]
            cases Gb.sgs t <;> simp
          · show _ ≤ _
            have := HDl.out
            rw [List.length_append, List.length_singleton]
            have := HNt.out; omega
      have d42 : ((x : Int) == 42) = false := by rw [beq_eq_false_iff_ne]; omega
      rw [if_neg h42] at HS
      clear h42
      by_cases h63 : x = 63
      · rw [if_pos h63] at HS
        have HE : Hid (((Gb.sgs t).map (some Gb.anyc :: ·)).map (fun z => done ++ z) = Z) := by
          show _ = _
          rw [HSt.out, HS]; rfl
        subst h63
        clear d42
        obtain ⟨cc, o1, o2, o3, o4⟩ := HO.out
        have HO2 : Hid ((∀ c ∈ cc, c.length = 2) ∧ cc.length = done.length ∧ ∀ (j : Nat) t c, done[j]? = some t → cc[j]? = some c → MkR wr t c) := ⟨o2, o3, o4⟩
        have hdl : done.length ≤ 1048576 := by have := HDl.out; have := HLn.out; omega
        clear HS HSt o2 o3 o4 HO HX
        go_wp2_with (at_builtin; refine wpList_append_own _ rfl (.tmp 48) (.tmp 50) 45 rfl w.heap.size 71 i0 (.agg #[.bool false, .nilFunc]) 2 16 Tryd.underlying45 hi hz0 hz1 hz2 rfl (by decide) _ _ _ rfl (((o1.alloc _).alloc _).alloc _) ⟨wr.heap.size + 1 + 1, 0, none⟩ 1 1 [.bool false, .func (.func 38) #[] #[]] rfl rfl ?d1 ?d2 ?d3 ?d4 ?d5 ?_)
        case d1 =>
          intro j u hj
          match j, hj with
          | 0, hj => simp at hj; subst hj; rw [add_at]; exact (cell_last _ _ (by simp) _ _ _).1
          | 1, hj => simp at hj; subst hj; rw [add_at]; exact (cell_last _ _ (by simp) _ _ _).2
        case d2 =>
          intro u hu
          simp only [List.mem_cons, List.not_mem_nil, or_false] at hu
          rcases hu with rfl | rfl <;> rfl
        case d3 => unfold maxLen; omega
        case d4 => omega
        case d5 => simp; omega
        intro v6 w4 hown4 hgrow _
        have hkW : Kt 71 ((wr.alloc (.cells #[.int .i64 63] 3)).alloc (.cells ([.bool false, .func (.func 38) #[] #[]]).toArray 71)) w4 := ((Kt.refl _ _).alloc _).trans (Kt.of_grown hgrow fun g hg => by
          obtain ⟨cur, q, _⟩ := own_block (((o1.alloc _).alloc _).alloc _) hg
          exact ⟨cur, _, q⟩)
        have hgW : Gt ((wr.alloc (.cells #[.int .i64 63] 3)).alloc (.cells ([.bool false, .func (.func 38) #[] #[]]).toArray 71)) w4 := Gt.of_kt hkW (by decide) (by decide) (by decide)
        have hg4 : Gt wr w4 := (Gt.of_below (((Below.refl _ wr).alloc (Nat.le_refl _) _).alloc (by simp) _)).trans hgW
        have HB4 : Hid (Below w.heap.size w w4) := (((HB.out.alloc hsw _).alloc (by simp; omega) _).alloc (by simp; omega) _).grown hgrow (by simp; omega) fun g hg => by
          obtain ⟨_, _, q, _⟩ := own_block o1 hg
          exact q
        have HOn : Hid (Oy 2 71 MkR w.heap.size w4 v6 (done ++ [some Gb.anyc])) := Oy.more HO2.out.1 HO2.out.2.1 (fun j t c a b => (HO2.out.2.2 j t c a b).gt hg4) hown4 rfl (⟨_, _, rfl, fn_any w4⟩)
        clear hown4 hgrow hkW hgW hg4 o1 HO2
        go_wp2_with fail
        go_roundg (n + 1)
        case measure => have := HNt.out; simp only [List.length_cons]; omega
        case rel =>
          refine ⟨done ++ [some Gb.anyc], t, by rw [HNt.out], HTh, HOn, ?_, ?_, HB4⟩
          · show _ = _
            rw [← HE.out]
            cases Gb.sgs t <;> simp
          · show _ ≤ _
            have := HDl.out
            rw [List.length_append, List.length_singleton]
            have := HNt.out; omega
      have d63 : ((x : Int) == 63) = false := by rw [beq_eq_false_iff_ne]; omega
      rw [if_neg h63] at HS
      clear h63
      by_cases h91 : x = 91
      · rw [if_pos h91] at HS
        subst h91
        clear d42 d63
        obtain ⟨W2, hW2⟩ : ∃ W2, W2 = (wr.alloc (.cells #[.int .i64 91] 3)).alloc (.cells #[.bool false, .func (.func 37) #[] #[.pointer (some ⟨wr.heap.size, 0, none⟩)]] 71) := ⟨_, rfl⟩
        have hB2 : Below wr.heap.size wr W2 := by rw [hW2]; exact ((Below.refl _ wr).alloc (Nat.le_refl _) _).alloc (by simp) _
        have HM2 : Hid (W2.heap[wr.heap.size + 1]? = some (.cells #[.bool false, .func (.func 37) #[] #[.pointer (some ⟨wr.heap.size, 0, none⟩)]] 71 (0, 0))) := by
          show _ = _
          rw [hW2]
          have := heap_alloc_new (wr.alloc (.cells #[.int .i64 91] 3)) (.cells #[.bool false, .func (.func 37) #[] #[.pointer (some ⟨wr.heap.size, 0, none⟩)]] 71)
          simpa using this
        have HBW2 : Hid (Below w.heap.size w W2) := HB.out.trans (hB2.mono hsw)
        have HB2 : Hid (Below wr.heap.size wr W2) := hB2
        have hcl := class_any _ t W2 (HTh.out.1.below HBW2.out) (by have := HDl.out; have := HLn.out; have := HNt.out; omega)
        clear hB2
        go_upto_region 6 with fail
        rw [← hW2]
        obtain ⟨b6, hb6⟩ : ∃ b6, b6 = wr.heap.size + 1 := ⟨_, rfl⟩
        have HI6 : Hid (b6 = wr.heap.size + 1) := hb6
        rw [← hb6] at HM2 ⊢
        have c5x : W2.cell? ⟨wr.heap.size, 0, none⟩ = some (.int .i64 91) := by
          rw [hW2]
          simp
        clear hW2 hb6
        go_wp2_with fail
        refine hcl.mono ?_
        rintro e w3 ⟨b3, ⟨hn, rfl⟩ | ⟨tst, r, f, v3, hs, rfl, hFn, hNr, hLr⟩⟩
        · have HE : Hid (Gb.sgs l = none) := by
            show _ = _
            rw [HZ.out, HSt.out, HS, hn]; rfl
          have hM3 := (b3.block _ (Array.getElem?_eq_some_iff.1 HM2.out).1).trans HM2.out
          obtain ⟨m0, m1, f0, f1⟩ := mark_at hM3
          have HB3 : Hid (Below w.heap.size w w3) := HBW2.out.trans (b3.mono HBW2.out.size)
          clear HS HSt hcl hn b3 HO HX
          go_wp2_with fail
          go_ret2
          exact ⟨(HB3.out.setCell (by have := HI6.out; simp; omega) _).setCell (by have := HI6.out; simp; omega) _, .inl ⟨HE.out, rfl⟩⟩
        · obtain ⟨g, caps, rfl, hent, hcall⟩ := hFn
          have HFn : Hid (FnT w3 (.func (.func g) #[] caps) tst) := ⟨g, caps, rfl, hent, hcall⟩
          have HE : Hid (((Gb.sgs r).map (some tst :: ·)).map (fun z => done ++ z) = Z) := by
            show _ = _
            rw [HSt.out, HS, hs]; rfl
          have hrl := Gb.cls_less hs
          have HB3 : Hid (Below w.heap.size w w3) := HBW2.out.trans (b3.mono HBW2.out.size)
          have hwr3 : Below wr.heap.size wr w3 := HB2.out.trans (b3.mono HB2.out.size)
          have HG3 : Hid (Gt wr w3) := Gt.of_below hwr3
          have HLr : Hid (Lb w.heap.size v3) := hLr _ HTh.out.2
          have HXr : Hid (Nx w v3 r ∧ Lb w.heap.size v3) := ⟨nx_back hNr HLr.out HB3.out, HLr.out⟩
          have HM3 : Hid (w3.heap[b6]? = some (.cells #[.bool false, .func (.func 37) #[] #[.pointer (some ⟨wr.heap.size, 0, none⟩)]] 71 (0, 0))) := (b3.block _ (Array.getElem?_eq_some_iff.1 HM2.out).1).trans HM2.out
          obtain ⟨m0, m1, f0, f1⟩ := mark_at HM3.out
          obtain ⟨cc, o0, o2, o3, o4⟩ := HO.out
          have HO2 : Hid ((∀ c ∈ cc, c.length = 2) ∧ cc.length = done.length ∧ ∀ (j : Nat) t c, done[j]? = some t → cc[j]? = some c → MkR wr t c) := ⟨o2, o3, o4⟩
          have hdl : done.length ≤ 1048576 := by have := HDl.out; have := HLn.out; omega
          have o1 : ((w3.setCell ⟨b6, 0, none⟩ (.bool false)).setCell ⟨b6, 1, none⟩ (.func (.func g) #[] caps)).ownsRow w.heap.size 71 2 u4 done.length cc.flatten := by
            refine own_kept (p := fun k => k ≠ b6) (own_below o0 hwr3) (((Kept.refl _ w3).setCell (by simp) _).setCell (by simp) _) fun g' hg' => ?_
            obtain ⟨_, _, _, q⟩ := own_block o0 hg'
            have := HI6.out
            omega
          have HKt : Hid (Kt 71 w3 ((w3.setCell ⟨b6, 0, none⟩ (.bool false)).setCell ⟨b6, 1, none⟩ (.func (.func g) #[] caps))) := (Kt.set HM3.out 0 (.bool false)).trans (Kt.set (cur := #[.bool false, .func (.func 37) #[] #[.pointer (some ⟨wr.heap.size, 0, none⟩)]]) (fr := (0, 0)) (by simp [World.setCell, Array.getElem?_modify, HM3.out]) 1 _)
          have HB5 : Hid (Below w.heap.size w ((w3.setCell ⟨b6, 0, none⟩ (.bool false)).setCell ⟨b6, 1, none⟩ (.func (.func g) #[] caps))) := (HB3.out.setCell (by have := HI6.out; simp; omega) _).setCell (by have := HI6.out; simp; omega) _
          have hlr : r.length < n := by rw [← HNt.out]; exact hrl
          have hsw3 := HB3.out.size
          obtain ⟨a3, c3, rfl⟩ := hNr.slice
          generalize hnr : r.length = nr at *
          have HNr : Hid (r.length = nr) := hnr
          clear HS HSt hcl hs b3 HO HX hnr hrl hwr3 o0 o2 o3 o4 hNr hLr hent hcall
          go_wp2_with (at_builtin; refine wpList_append_own _ rfl (.tmp 48) (.tmp 50) 45 rfl w.heap.size 71 i0 (.agg #[.bool false, .nilFunc]) 2 16 Tryd.underlying45 hi hz0 hz1 hz2 rfl (by decide) _ _ _ rfl (o1.alloc _) ⟨w3.heap.size, 0, none⟩ 1 1 [.bool false, .func (.func g) #[] caps] rfl rfl ?g1 ?g2 ?g3 ?g4 ?g5 ?_)
          case g1 =>
            intro j u hj
            match j, hj with
            | 0, hj => simp at hj; subst hj; rw [add_at]; exact (cell_last _ _ (by simp [World.setCell]) _ _ _).1
            | 1, hj => simp at hj; subst hj; rw [add_at]; exact (cell_last _ _ (by simp [World.setCell]) _ _ _).2
          case g2 =>
            intro u hu
            simp only [List.mem_cons, List.not_mem_nil, or_false] at hu
            rcases hu with rfl | rfl <;> rfl
          case g3 => unfold maxLen; omega
          case g4 => omega
          case g5 => simp [World.setCell]; omega
          intro v6 w4 hown4 hgrow _
          have hkW : Kt 71 ((w3.setCell ⟨b6, 0, none⟩ (.bool false)).setCell ⟨b6, 1, none⟩ (.func (.func g) #[] caps)) w4 := ((Kt.refl _ _).alloc _).trans (Kt.of_grown hgrow fun g hg => by
            obtain ⟨cur, q, _⟩ := own_block (o1.alloc _) hg
            exact ⟨cur, _, q⟩)
          have hgW : Gt ((w3.setCell ⟨b6, 0, none⟩ (.bool false)).setCell ⟨b6, 1, none⟩ (.func (.func g) #[] caps)) w4 := Gt.of_kt hkW (by decide) (by decide) (by decide)
          have hg4 : Gt wr w4 := (HG3.out.trans (Gt.of_kt HKt.out (by decide) (by decide) (by decide))).trans hgW
          have HB4 : Hid (Below w.heap.size w w4) := ((HB5.out).alloc (HB5.out.size) _).grown hgrow (by simp [World.setCell]; omega) fun g hg => by
            obtain ⟨_, _, q, _⟩ := own_block o1 hg
            exact q
          have HOn : Hid (Oy 2 71 MkR w.heap.size w4 v6 (done ++ [some tst])) := Oy.more HO2.out.1 HO2.out.2.1 (fun j t c a b => (HO2.out.2.2 j t c a b).gt hg4) hown4 rfl (⟨_, _, rfl, HFn.out.past ((Gt.of_kt HKt.out (by decide) (by decide) (by decide)).trans hgW)⟩)
          clear hown4 hgrow hkW hgW hg4 o1 HO2
          go_wp2_with fail
          go_roundg (nr + 1)
          case measure => simp only [List.length_cons]; have := HNt.out; omega
          case rel =>
            refine ⟨done ++ [some tst], r, by rw [HNr.out], HXr, HOn, ?_, ?_, HB4⟩
            · show _ = _
              rw [← HE.out]
              cases Gb.sgs r <;> simp
            · show _ ≤ _
              have := HDl.out
              rw [List.length_append, List.length_singleton]
              have := HNr.out; omega
      have d91 : ((x : Int) == 91) = false := by rw [beq_eq_false_iff_ne]; omega
      rw [if_neg h91] at HS
      clear h91
      by_cases h92 : x = 92
      · rw [Gb.rc, if_pos h92] at HS
        subst h92
        clear d42 d63 d91
        cases t with
        | nil =>
          have HE : Hid (Gb.sgs l = none) := by
            show _ = _
            rw [HZ.out, HSt.out, HS]; rfl
          have hn0 : n = 0 := by rw [← HNt.out]; rfl
          subst hn0
          clear HS HSt HO HX
          go_wp2_with fail
          go_ret2
          exact ⟨(HB.out.alloc hsw _).alloc (by simp; omega) _, .inl ⟨HE.out, rfl⟩⟩
        | cons d t2 =>
          have HE : Hid (((Gb.sgs t2).map (some (Gb.just d) :: ·)).map (fun z => done ++ z) = Z) := by
            show _ = _
            rw [HSt.out, HS]; rfl
          obtain ⟨m, rfl⟩ : ∃ m, n = m + 1 := ⟨t2.length, by rw [← HNt.out]; simp⟩
          have hA1' : A1 = some ⟨bk, o + 1, none⟩ := by rw [← hA1, if_neg (by omega)]
          subst hA1'
          obtain ⟨bk', o', ea, _, hcap2, e0⟩ := HTh.out.1.get 0 (by simp)
          cases ea
          have e0 : wr.cell? ⟨bk, o + 1, none⟩ = some (.int .i64 d) := (HB.out.cell (p := ⟨bk, o + 1, none⟩) hbk).trans e0
          have hm2 : t2.length = m := by have := HNt.out; simp at this; exact this
          obtain ⟨c6, hc6⟩ : ∃ c6, c5 = c6 + 1 := ⟨c5 - 1, by omega⟩
          subst hc6
          rw [Nat.add_sub_cancel] at HTh
          have HT2 := Nx.drop (n := t2.length) 1 (by rw [hm2]; exact HTh.out.1) (by simp)
          obtain ⟨A2, hA2⟩ : ∃ A2, (if c6 = 1 then some (⟨bk, o + 1, none⟩ : Addr) else some ⟨bk, o + 1 + 1, none⟩) = A2 := ⟨_, rfl⟩
          rw [hA2, hm2] at HT2
          have HTh2 : Hid (Nx w (.slice A2 m (c6 - 1)) t2 ∧ Lb w.heap.size (.slice A2 m (c6 - 1))) := ⟨HT2, HTh.out.2.drop hA2 (by omega)⟩
          have HNm : Hid (t2.length = m) := hm2
          have q2 : (1 : Int) ≤ (m : Int) + 1 := by omega
          have hc1 : ¬ c6 = 0 := by omega
          clear HT2 hm2 hA1
          obtain ⟨cc, o1, o2, o3, o4⟩ := HO.out
          have HO2 : Hid ((∀ c ∈ cc, c.length = 2) ∧ cc.length = done.length ∧ ∀ (j : Nat) t c, done[j]? = some t → cc[j]? = some c → MkR wr t c) := ⟨o2, o3, o4⟩
          have hdl : done.length ≤ 1048576 := by have := HDl.out; have := HLn.out; omega
          clear HS HSt o2 o3 o4 HO HX
          go_wp2_with (at_builtin; refine wpList_append_own _ rfl (.tmp 48) (.tmp 50) 45 rfl w.heap.size 71 i0 (.agg #[.bool false, .nilFunc]) 2 16 Tryd.underlying45 hi hz0 hz1 hz2 rfl (by decide) _ _ _ rfl ((((o1.alloc _).alloc _).alloc _).alloc _) ⟨wr.heap.size + 1 + 1 + 1, 0, none⟩ 1 1 [.bool false, .func (.func 40) #[] #[.pointer (some ⟨wr.heap.size + 1 + 1, 0, none⟩)]] rfl rfl ?f1 ?f2 ?f3 ?f4 ?f5 ?_)
          case f1 =>
            intro j u hj
            match j, hj with
            | 0, hj => simp at hj; subst hj; rw [add_at]; exact (cell_last _ _ (by simp) _ _ _).1
            | 1, hj => simp at hj; subst hj; rw [add_at]; exact (cell_last _ _ (by simp) _ _ _).2
          case f2 =>
            intro u hu
            simp only [List.mem_cons, List.not_mem_nil, or_false] at hu
            rcases hu with rfl | rfl <;> rfl
          case f3 => unfold maxLen; omega
          case f4 => omega
          case f5 => simp; omega
          intro v6 w4 hown4 hgrow _
          have hkW : Kt 71 (((wr.alloc (.cells #[.int .i64 92] 3)).alloc (.cells #[.bool false, .func (.func 40) #[] #[.pointer (some ⟨wr.heap.size + 1 + 1, 0, none⟩)]] 71)).alloc (.cells #[.int .i64 d] 3)) w4 := ((Kt.refl _ _).alloc _).trans (Kt.of_grown hgrow fun g hg => by
            obtain ⟨cur, q, _⟩ := own_block ((((o1.alloc _).alloc _).alloc _).alloc _) hg
            exact ⟨cur, _, q⟩)
          have hgW : Gt (((wr.alloc (.cells #[.int .i64 92] 3)).alloc (.cells #[.bool false, .func (.func 40) #[] #[.pointer (some ⟨wr.heap.size + 1 + 1, 0, none⟩)]] 71)).alloc (.cells #[.int .i64 d] 3)) w4 := Gt.of_kt hkW (by decide) (by decide) (by decide)
          have hg4 : Gt wr w4 := (Gt.of_below ((((Below.refl _ wr).alloc (Nat.le_refl _) _).alloc (by simp) _).alloc (by simp; omega) _)).trans hgW
          have HB4 : Hid (Below w.heap.size w w4) := ((((HB.out.alloc hsw _).alloc (by simp; omega) _).alloc (by simp; omega) _).alloc (by simp; omega) _).grown hgrow (by simp; omega) fun g hg => by
            obtain ⟨_, _, q, _⟩ := own_block o1 hg
            exact q
          have HOn : Hid (Oy 2 71 MkR w.heap.size w4 v6 (done ++ [some (Gb.just d)])) := Oy.more HO2.out.1 HO2.out.2.1 (fun j t c a b => (HO2.out.2.2 j t c a b).gt hg4) hown4 rfl (⟨_, _, rfl, (fn_just3 (w := ((wr.alloc (.cells #[.int .i64 92] 3)).alloc (.cells #[.bool false, .func (.func 40) #[] #[.pointer (some ⟨wr.heap.size + 1 + 1, 0, none⟩)]] 71)).alloc (.cells #[.int .i64 d] 3)) (b := wr.heap.size + 1 + 1) (by have := heap_alloc_new ((wr.alloc (.cells #[.int .i64 92] 3)).alloc (.cells #[.bool false, .func (.func 40) #[] #[.pointer (some ⟨wr.heap.size + 1 + 1, 0, none⟩)]] 71)) (.cells #[.int .i64 d] 3); simpa using this)).past hgW⟩)
          clear hown4 hgrow hkW hgW hg4 o1 HO2
          go_wp2_with fail
          go_roundg (m + 1)
          case measure => have := HNm.out; simp only [List.length_cons]; omega
          case rel =>
            refine ⟨done ++ [some (Gb.just d)], t2, by rw [HNm.out], HTh2, HOn, ?_, ?_, HB4⟩
            · show _ = _
              rw [← HE.out]
              cases Gb.sgs t2 <;> simp
            · show _ ≤ _
              have := HDl.out
              rw [List.length_append, List.length_singleton]
              have := HNm.out; omega
      have d92 : ((x : Int) == 92) = false := by rw [beq_eq_false_iff_ne]; omega
      rw [Gb.rc, if_neg h92] at HS
      have HE : Hid (((Gb.sgs t).map (some (Gb.just x) :: ·)).map (fun z => done ++ z) = Z) := by
        show _ = _
        rw [HSt.out, HS]; rfl
      clear h92
      obtain ⟨cc, o1, o2, o3, o4⟩ := HO.out
      have HO2 : Hid ((∀ c ∈ cc, c.length = 2) ∧ cc.length = done.length ∧ ∀ (j : Nat) t c, done[j]? = some t → cc[j]? = some c → MkR wr t c) := ⟨o2, o3, o4⟩
      have hdl : done.length ≤ 1048576 := by have := HDl.out; have := HLn.out; omega
      clear HS HSt o2 o3 o4 HO HX
      go_wp2_with (at_builtin; refine wpList_append_own _ rfl (.tmp 48) (.tmp 50) 45 rfl w.heap.size 71 i0 (.agg #[.bool false, .nilFunc]) 2 16 Tryd.underlying45 hi hz0 hz1 hz2 rfl (by decide) _ _ _ rfl (((o1.alloc _).alloc _).alloc _) ⟨wr.heap.size + 1 + 1, 0, none⟩ 1 1 [.bool false, .func (.func 37) #[] #[.pointer (some ⟨wr.heap.size, 0, none⟩)]] rfl rfl ?e1 ?e2 ?e3 ?e4 ?e5 ?_)
      case e1 =>
        intro j u hj
        match j, hj with
        | 0, hj => simp at hj; subst hj; rw [add_at]; exact (cell_last _ _ (by simp) _ _ _).1
        | 1, hj => simp at hj; subst hj; rw [add_at]; exact (cell_last _ _ (by simp) _ _ _).2
      case e2 =>
        intro u hu
        simp only [List.mem_cons, List.not_mem_nil, or_false] at hu
        rcases hu with rfl | rfl <;> rfl
      case e3 => unfold maxLen; omega
      case e4 => omega
      case e5 => simp; omega
      intro v6 w4 hown4 hgrow _
      have hkW : Kt 71 ((wr.alloc (.cells #[.int .i64 x] 3)).alloc (.cells ([.bool false, .func (.func 37) #[] #[.pointer (some ⟨wr.heap.size, 0, none⟩)]]).toArray 71)) w4 := ((Kt.refl _ _).alloc _).trans (Kt.of_grown hgrow fun g hg => by
        obtain ⟨cur, q, _⟩ := own_block (((o1.alloc _).alloc _).alloc _) hg
        exact ⟨cur, _, q⟩)
      have hgW : Gt ((wr.alloc (.cells #[.int .i64 x] 3)).alloc (.cells ([.bool false, .func (.func 37) #[] #[.pointer (some ⟨wr.heap.size, 0, none⟩)]]).toArray 71)) w4 := Gt.of_kt hkW (by decide) (by decide) (by decide)
      have hg4 : Gt wr w4 := (Gt.of_below (((Below.refl _ wr).alloc (Nat.le_refl _) _).alloc (by simp) _)).trans hgW
      have HB4 : Hid (Below w.heap.size w w4) := (((HB.out.alloc hsw _).alloc (by simp; omega) _).alloc (by simp; omega) _).grown hgrow (by simp; omega) fun g hg => by
        obtain ⟨_, _, q, _⟩ := own_block o1 hg
        exact q
      have HOn : Hid (Oy 2 71 MkR w.heap.size w4 v6 (done ++ [some (Gb.just x)])) := Oy.more HO2.out.1 HO2.out.2.1 (fun j t c a b => (HO2.out.2.2 j t c a b).gt hg4) hown4 rfl (⟨_, _, rfl, (fn_just1 (w := wr.alloc (.cells #[.int .i64 x] 3)) (b := wr.heap.size) (heap_alloc_new wr _)).past ((Gt.of_below ((Below.refl _ _).alloc (Nat.le_refl _) _)).trans hgW)⟩)
      clear hown4 hgrow hkW hgW hg4 o1 HO2
      go_wp2_with fail
      go_roundg (n + 1)
      case measure => have := HNt.out; simp only [List.length_cons]; omega
      case rel =>
        refine ⟨done ++ [some (Gb.just x)], t, by rw [HNt.out], HTh, HOn, ?_, ?_, HB4⟩
        · show _ = _
          rw [← HE.out]
          cases Gb.sgs t <;> simp
        · show _ ≤ _
          have := HDl.out
          rw [List.length_append, List.length_singleton]
          have := HNt.out; omega
end Go.Proofs.YtfcnlfblfennaaaDoor
