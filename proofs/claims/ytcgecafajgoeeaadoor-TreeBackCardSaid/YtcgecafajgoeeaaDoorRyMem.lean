/-
  Rows of things that themselves have rows: what lies in memory, by a relation; what stays while rows of one type grow.
-/
import Derived.Test.YtcgecafajgoeeaaDoorTxMem
import Derived.Laws.AppendOwn
namespace Go.Proofs.YtcgecafajgoeeaaDoor
open Go.RowKit

/-- every block that was there is as it was, but those of one type -/
structure Kt (T : TypeId) (A B : World) : Prop where
  os : B.os = A.os
  tape : B.tape = A.tape
  output : B.output = A.output
  size : A.heap.size ≤ B.heap.size
  obj : ∀ (k : Nat) (o : Obj), A.heap[k]? = some o → (¬ ∃ cur fr, o = .cells cur T fr) → B.heap[k]? = some o
section
variable {T T' : TypeId} {A B C : World}
theorem Kt.refl (T : TypeId) (A : World) : Kt T A A := ⟨rfl, rfl, rfl, Nat.le_refl _, fun _ _ h _ => h⟩
theorem Kt.trans (h : Kt T A B) (k : Kt T B C) : Kt T A C :=
  ⟨k.os.trans h.os, k.tape.trans h.tape, k.output.trans h.output, Nat.le_trans h.size k.size, fun i _ ho hn => k.obj i _ (h.obj i _ ho hn) hn⟩
theorem Kt.of_below (h : Below A.heap.size A B) : Kt T A B := ⟨h.os, h.tape, h.output, h.size, fun k _ ho _ => (h.block k (Array.getElem?_eq_some_iff.1 ho).1).trans ho⟩
theorem Kt.of_grown {row : Option Nat} (h : A.grownBy B row) (hr : ∀ g, row = some g → ∃ cur fr, A.heap[g]? = some (.cells cur T fr)) : Kt T A B :=
  ⟨h.os, h.tape, h.output, h.size, fun k _ ho hn => (h.block k (Array.getElem?_eq_some_iff.1 ho).1 (fun e => by
    obtain ⟨cur, fr, hc⟩ := hr k e.symm
    rw [hc] at ho
    cases ho
    exact hn ⟨_, _, rfl⟩)).trans ho⟩
theorem Kt.alloc (h : Kt T A B) (o : Obj) : Kt T A (B.alloc o) := h.trans (Kt.of_below ((Below.refl _ B).alloc (Nat.le_refl _) o))
theorem Kt.drew (h : Kt T A B) : Kt T A B.drew := ⟨h.os, h.tape, h.output, h.size, h.obj⟩
theorem Kt.set {g : Nat} {cur : Array Value} {fr : Nat × Nat} (h : B.heap[g]? = some (.cells cur T fr)) (j : Nat) (x : Value) : Kt T B (B.setCell ⟨g, j, none⟩ x) :=
  ⟨rfl, rfl, rfl, by simp [World.setCell], fun k _ ho hn => (Below.heap_setCell _ _ _ _ (fun e => by
    have e : k = g := e
    subst e
    rw [h] at ho
    cases ho
    exact hn ⟨_, _, rfl⟩)).trans ho⟩
theorem Kt.cell (h : Kt T A B) {k : Nat} {cur : Array Value} {fr : Nat × Nat} (ho : A.heap[k]? = some (.cells cur T' fr)) (hne : T' ≠ T) : B.heap[k]? = some (.cells cur T' fr) :=
  h.obj k _ ho (fun ⟨_, _, e⟩ => by cases e; exact hne rfl)
end

/-- things of k cells each, whose cells are as R says -/
structure Ry {α : Type} (k : Nat) (T : TypeId) (R : World → α → List Value → Prop) (w : World) (v : Value) (l : List α) : Prop where
  at_ : ((∃ a c, v = .slice a 0 c) ∧ l = []) ∨ ∃ bk o cap, v = .slice (some ⟨bk, o, none⟩) l.length cap ∧ l.length ≤ cap ∧ (∃ cur fr, w.heap[bk]? = some (.cells cur T fr)) ∧
    ∀ j t, l[j]? = some t → ∃ c : List Value, c.length = k ∧ R w t c ∧ ∀ r u, c[r]? = some u → w.cell? ⟨bk, o + j * k + r, none⟩ = some u
section
variable {α : Type} {k : Nat} {T : TypeId} {R : World → α → List Value → Prop} {w W : World} {v : Value} {l : List α}
theorem Ry.nil (a : Option Addr) (c : Nat) : Ry k T R w (.slice a 0 c) [] := ⟨.inl ⟨⟨_, _, rfl⟩, rfl⟩⟩
theorem Ry.slice (h : Ry k T R w v l) : ∃ a c, v = .slice a l.length c := by
  rcases h.at_ with ⟨⟨a, c, rfl⟩, rfl⟩ | ⟨bk, o, cap, rfl, _⟩
  · exact ⟨_, _, rfl⟩
  · exact ⟨_, _, rfl⟩
theorem Ry.room {a : Option Addr} {n c : Nat} (h : Ry k T R w (.slice a n c) l) (hn : 0 < l.length) : l.length ≤ c ∧ n = l.length := by
  rcases h.at_ with ⟨_, rfl⟩ | ⟨bk, o, cap, e, h1, _⟩
  · simp at hn
  · cases e; exact ⟨h1, rfl⟩
theorem Ry.obj (h : Ry k T R w v l) (hR : ∀ t c, R w t c → R W t c) (ho : ∀ (g : Nat) cur fr, w.heap[g]? = some (.cells cur T fr) → W.heap[g]? = some (.cells cur T fr)) : Ry k T R W v l := by
  rcases h.at_ with h | ⟨bk, o, cap, h1, h2, ⟨cur, fr, h3⟩, h4⟩
  · exact ⟨.inl h⟩
  · have e := ho bk cur fr h3
    refine ⟨.inr ⟨bk, o, cap, h1, h2, ⟨cur, fr, e⟩, fun j t hj => ?_⟩⟩
    obtain ⟨c, c1, c2, c3⟩ := h4 j t hj
    refine ⟨c, c1, hR t c c2, fun r u hu => ?_⟩
    rw [← c3 r u hu]
    simp only [World.cell?, h3, e]
theorem Ry.kt {T' : TypeId} (h : Ry k T R w v l) (hk : Kt T' w W) (hne : T ≠ T') (hR : ∀ t c, R w t c → R W t c) : Ry k T R W v l := h.obj hR fun _ _ _ ho => hk.cell ho hne
theorem Ry.below (h : Ry k T R w v l) (hb : Below w.heap.size w W) (hR : ∀ t c, R w t c → R W t c) : Ry k T R W v l :=
  h.obj hR fun g _ _ ho => (hb.block g (Array.getElem?_eq_some_iff.1 ho).1).trans ho
theorem Ry.get {a : Option Addr} {n c : Nat} (h : Ry k T R w (.slice a n c) l) (j : Nat) (t : α) (hj : l[j]? = some t) : ∃ bk o cs, a = some ⟨bk, o, none⟩ ∧ bk < w.heap.size ∧ cs.length = k ∧ R w t cs ∧
    ∀ r u, cs[r]? = some u → w.cell? ⟨bk, o + j * k + r, none⟩ = some u := by
  rcases h.at_ with ⟨_, rfl⟩ | ⟨bk, o, cap, h1, h2, ⟨cur, fr, h3⟩, h4⟩
  · simp at hj
  · rw [Value.slice.injEq] at h1
    obtain ⟨rfl, rfl, rfl⟩ := h1
    obtain ⟨cs, c1, c2, c3⟩ := h4 j t hj
    exact ⟨bk, o, cs, rfl, (Array.getElem?_eq_some_iff.1 h3).1, c1, c2, c3⟩
end
/-- a row of one's own of such things -/
def Oy {α : Type} (k : Nat) (T : TypeId) (R : World → α → List Value → Prop) (base : Nat) (w : World) (v : Value) (l : List α) : Prop :=
  ∃ cs : List (List Value), w.ownsRow base T k v l.length cs.flatten ∧ (∀ c ∈ cs, c.length = k) ∧ cs.length = l.length ∧ ∀ (j : Nat) t c, l[j]? = some t → cs[j]? = some c → R w t c
theorem flat_get {k : Nat} : ∀ (cs : List (List Value)), (∀ c ∈ cs, c.length = k) → ∀ (i r : Nat) (c : List Value), cs[i]? = some c → r < k → cs.flatten[i * k + r]? = c[r]?
  | [], _, i, r, c, hi, _ => by simp at hi
  | q :: cs, h, i, r, c, hi, hr => by
    have hq := h q (by simp)
    rw [List.flatten_cons]
    cases i with
    | zero =>
      obtain rfl : q = c := by simpa using hi
      rw [Nat.zero_mul, Nat.zero_add, List.getElem?_append_left (by rw [hq]; exact hr)]
    | succ i =>
      rw [List.getElem?_append_right (by rw [hq, Nat.add_mul, Nat.one_mul]; omega), hq, show (i + 1) * k + r - k = i * k + r from by rw [Nat.add_mul, Nat.one_mul]; omega]
      exact flat_get cs (fun c hc => h c (by simp [hc])) i r c (by simpa using hi) hr
section
variable {α : Type} {k : Nat} {T : TypeId} {R : World → α → List Value → Prop} {base : Nat} {w W : World} {v : Value} {l : List α}
theorem Oy.nil : Oy k T R base w (.slice none 0 0) ([] : List α) := ⟨[], World.ownsRow_nil w _ _ _, by simp, rfl, fun j t c h => by simp at h⟩
theorem Oy.ry (h : Oy k T R base w v l) : Ry k T R w v l := by
  obtain ⟨cs, h1, h2, h3, h4⟩ := h
  rcases h1.2 with ⟨rfl, h0⟩ | ⟨g, cap, cur, rfl, hg, hh, hle, _⟩
  · have : l = [] := List.length_eq_zero_iff.1 h0
    subst this
    exact Ry.nil _ _
  · refine ⟨.inr ⟨g, 0, cap, rfl, hle, ⟨cur, _, hh⟩, fun j t hj => ?_⟩⟩
    have hjl := (List.getElem?_eq_some_iff.1 hj).1
    have hc : cs[j]? = some (cs[j]'(by omega)) := List.getElem?_eq_getElem (by omega)
    generalize cs[j]'(by omega) = c at hc
    have hck := h2 c (List.mem_of_getElem? hc)
    refine ⟨c, hck, h4 j t c hj hc, fun r u hu => ?_⟩
    have hr : r < k := by
      have := (List.getElem?_eq_some_iff.1 hu).1
      omega
    have := World.ownsRow.cells h1 (g := g) rfl (j * k + r) u (by rw [flat_get cs h2 j r c hc hr]; exact hu)
    rw [show (0 : Nat) + j * k + r = j * k + r from by omega]
    rwa [show ((⟨g, 0, none⟩ : Addr).add (j * k + r)) = ⟨g, j * k + r, none⟩ from by unfold Addr.add; split <;> simp_all] at this
theorem Oy.obj (h : Oy k T R base w v l) (hR : ∀ t c, R w t c → R W t c) (ho : ∀ (g : Nat) cur fr, w.heap[g]? = some (.cells cur T fr) → W.heap[g]? = some (.cells cur T fr)) : Oy k T R base W v l := by
  obtain ⟨cs, h1, h2, h3, h4⟩ := h
  refine ⟨cs, ⟨h1.1, ?_⟩, h2, h3, fun j t c a b => hR t c (h4 j t c a b)⟩
  rcases h1.2 with h | ⟨g, cap, cur, hv, hg, hh, r⟩
  · exact .inl h
  · exact .inr ⟨g, cap, cur, hv, hg, ho g _ _ hh, r⟩
theorem Oy.below (h : Oy k T R base w v l) (hb : Below w.heap.size w W) (hR : ∀ t c, R w t c → R W t c) : Oy k T R base W v l :=
  h.obj hR fun g _ _ ho => (hb.block g (Array.getElem?_eq_some_iff.1 ho).1).trans ho
theorem Oy.kt {T' : TypeId} (h : Oy k T R base w v l) (hk : Kt T' w W) (hne : T ≠ T') (hR : ∀ t c, R w t c → R W t c) : Oy k T R base W v l := h.obj hR fun _ _ _ ho => hk.cell ho hne
/-- one more behind it -/
theorem Oy.more {cs : List (List Value)} {c : List Value} {t : α} {v1 : Value} (h2 : ∀ c ∈ cs, c.length = k) (h3 : cs.length = l.length) (h4 : ∀ (j : Nat) t c, l[j]? = some t → cs[j]? = some c → R W t c)
    (h : W.ownsRow base T k v1 (l.length + 1) (cs.flatten ++ c)) (hc : c.length = k) (hR : R W t c) : Oy k T R base W v1 (l ++ [t]) := by
  refine ⟨cs ++ [c], ?_, fun x hx => ?_, by simp [h3], fun j t' c' hj hc' => ?_⟩
  · rw [List.length_append, List.length_singleton, List.flatten_append, List.flatten_singleton]; exact h
  · rcases List.mem_append.1 hx with hx | hx
    · exact h2 x hx
    · rw [List.mem_singleton.1 hx]; exact hc
  · rcases Nat.lt_or_ge j l.length with q | q
    · rw [List.getElem?_append_left q] at hj
      rw [List.getElem?_append_left (by omega)] at hc'
      exact h4 j t' c' hj hc'
    · have hjl := (List.getElem?_eq_some_iff.1 hj).1
      rw [List.length_append, List.length_singleton] at hjl
      obtain rfl : j = l.length := by omega
      rw [List.getElem?_append_right (Nat.le_refl _), Nat.sub_self] at hj
      rw [List.getElem?_append_right (by omega), h3, Nat.sub_self] at hc'
      simp at hj hc'
      subst hj; subst hc'
      exact hR
theorem Oy.own (h : Oy k T R base w v l) {g : Nat} (hg : v.ownBlock = some g) : (∃ cur fr, w.heap[g]? = some (.cells cur T fr)) ∧ base ≤ g := by
  obtain ⟨cs, h1, _⟩ := h
  obtain ⟨cur, a, b, _⟩ := own_block h1 hg
  exact ⟨⟨cur, _, a⟩, b⟩
/-- what an append of one leaves: all but the rows of its type stands -/
theorem Oy.grown {base : Nat} {v : Value} {l : List α} (h : Oy k T R base w v l) (hg : w.grownBy W v.ownBlock) : Kt T w W := Kt.of_grown hg fun _ hgv => (h.own hgv).1
end
end Go.Proofs.YtcgecafajgoeeaaDoor
