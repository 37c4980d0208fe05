/-
  P40: runes, items, signs and parts as they lie in memory.
-/
import Derived.Test.YtfcnlfblfennaaaDoorGbRead
import Derived.Test.YtfcnlfblfennaaaDoorRyMem
namespace Go.Proofs.YtfcnlfblfennaaaDoor
open Go.RowKit

/-- runes that lie in memory, in a slice that is no longer than its room -/
structure Rn (w : World) (v : Value) (l : List Nat) : Prop where
  at_ : ((∃ a c, v = .slice a 0 c) ∧ l = []) ∨ ∃ bk o cap, v = .slice (some ⟨bk, o, none⟩) l.length cap ∧ (∃ cur fr, w.heap[bk]? = some (.cells cur 21 fr)) ∧ l.length ≤ cap ∧
    ∀ j, j < l.length → w.cell? ⟨bk, o + j, none⟩ = some (Rv (l.getD j 0))
theorem Rn.nil (w : World) (a : Option Addr) (c : Nat) : Rn w (.slice a 0 c) [] := ⟨.inl ⟨⟨_, _, rfl⟩, rfl⟩⟩
theorem Rn.slice {w : World} {v : Value} {l : List Nat} (h : Rn w v l) : ∃ a c, v = .slice a l.length c := by
  rcases h.at_ with ⟨⟨a, c, rfl⟩, rfl⟩ | ⟨bk, o, cap, rfl, _⟩
  · exact ⟨_, _, rfl⟩
  · exact ⟨_, _, rfl⟩
theorem Rn.kt {T : TypeId} {w w' : World} {v : Value} {l : List Nat} (h : Rn w v l) (hk : Kt T w w') (hne : 21 ≠ T) : Rn w' v l := by
  rcases h.at_ with h | ⟨bk, o, cap, h1, ⟨cur, fr, h2⟩, h3, h4⟩
  · exact ⟨.inl h⟩
  · have e := hk.cell h2 hne
    refine ⟨.inr ⟨bk, o, cap, h1, ⟨cur, fr, e⟩, h3, fun j hj => ?_⟩⟩
    rw [← h4 j hj]
    simp only [World.cell?, h2, e]
theorem Rn.below {w w' : World} {v : Value} {l : List Nat} (h : Rn w v l) (hb : Below w.heap.size w w') : Rn w' v l := h.kt (T := 4) (Kt.of_below hb) (by decide)
theorem Rn.get {w : World} {a : Option Addr} {n c : Nat} {l : List Nat} (h : Rn w (.slice a n c) l) (j : Nat) (hj : j < l.length) : ∃ bk o, a = some ⟨bk, o, none⟩ ∧ bk < w.heap.size ∧ l.length ≤ c ∧
    w.cell? ⟨bk, o + j, none⟩ = some (Rv (l.getD j 0)) := by
  rcases h.at_ with ⟨_, rfl⟩ | ⟨bk, o, cap, h1, ⟨cur, fr, h2⟩, h3, h4⟩
  · simp at hj
  · simp at h1
    obtain ⟨rfl, rfl, rfl⟩ := h1
    exact ⟨bk, o, rfl, (Array.getElem?_eq_some_iff.1 h2).1, h3, h4 j hj⟩
/-- all but the first k -/
theorem Rn.drop {w : World} {bk o n c : Nat} {l : List Nat} (k : Nat) (h : Rn w (.slice (some ⟨bk, o, none⟩) (n + k) c) l) (hl : l.length = n + k) :
    Rn w (.slice (if c = k then some ⟨bk, o, none⟩ else some ⟨bk, o + k, none⟩) n (c - k)) (l.drop k) := by
  rcases h.at_ with ⟨⟨a, d, hv⟩, hx⟩ | ⟨bk', o', cap, hv, hb, hc, hcell⟩
  · simp at hv
    rw [hx] at hl
    simp at hl
    obtain ⟨rfl, rfl⟩ : n = 0 ∧ k = 0 := by omega
    rw [hx, List.drop_nil]
    exact Rn.nil ..
  · simp at hv
    obtain ⟨⟨rfl, rfl⟩, h1, rfl⟩ := hv
    by_cases h0 : n = 0
    · subst h0
      rw [List.drop_eq_nil_of_le (by omega)]
      exact Rn.nil ..
    · refine ⟨.inr ⟨bk, o + k, c - k, by rw [if_neg (by omega), List.length_drop, hl, Nat.add_sub_cancel], hb, by rw [List.length_drop]; omega, fun j hj => ?_⟩⟩
      rw [List.length_drop] at hj
      have := hcell (k + j) (by omega)
      rw [show o + k + j = o + (k + j) from by omega, this, List.getD_eq_getElem?_getD, List.getD_eq_getElem?_getD, List.getElem?_drop]
/-- what a conversion leaves: the runes of a text -/
theorem Rn.made (w : World) (cs : List Nat) (x : Array Value) (cap : Nat) (hc : cs.length ≤ cap) : Rn (w.alloc (.cells ((cs.map Rv).toArray ++ x) 21)) (.slice (some ⟨w.heap.size, 0, none⟩) cs.length cap) cs := by
  refine ⟨.inr ⟨w.heap.size, 0, cap, rfl, ⟨_, _, heap_alloc_new w _⟩, hc, fun j hj => ?_⟩⟩
  rw [World.cell?_alloc_new]
  show ((cs.map Rv).toArray ++ x)[0 + j]? = _
  rw [Nat.zero_add, Array.getElem?_append_left (by simpa using hj)]
  simp [List.getD_eq_getElem?_getD, hj]

/-- items -/
abbrev ItR (_ : World) (i : Nat × Nat) (c : List Value) : Prop := c = [Rv i.1, Rv i.2]
abbrev Itm (w : World) (v : Value) (l : List (Nat × Nat)) : Prop := Ry 2 120 ItR w v l
/-- a sign (none: a star) -/
def SgR (w : World) (t : Option Gb.Tst) (c : List Value) : Prop :=
  match t with
  | none => ∃ n a k q, c = [.bool true, .bool n, .slice a k q]
  | some t => ∃ s, c = [.bool false, .bool t.1, s] ∧ Itm w s t.2
abbrev Sgs (w : World) (v : Value) (l : List (Option Gb.Tst)) : Prop := Ry 3 109 SgR w v l
/-- a part (none: any names) -/
def PtR (w : World) (p : Option (List (Option Gb.Tst))) (c : List Value) : Prop :=
  match p with
  | none => ∃ a k q, c = [.bool true, .slice a k q]
  | some m => ∃ s, c = [.bool false, s] ∧ Sgs w s m
abbrev Pts (w : World) (v : Value) (l : List (Option (List (Option Gb.Tst)))) : Prop := Ry 2 54 PtR w v l
/-- a rule: does it take back? its parts -/
def RlR (w : World) (r : Bool × List (Option (List (Option Gb.Tst)))) (c : List Value) : Prop := ∃ s, c = [.bool r.1, s] ∧ Pts w s r.2
abbrev Rls (w : World) (v : Value) (l : List (Bool × List (Option (List (Option Gb.Tst))))) : Prop := Ry 2 87 RlR w v l
section
variable {T : TypeId} {w W : World} {v : Value}
theorem Itm.kt {l : List (Nat × Nat)} (hk : Kt T w W) (h1 : 120 ≠ T) (h : Itm w v l) : Itm W v l := Ry.kt h hk h1 fun _ _ q => q
theorem SgR.kt {t : Option Gb.Tst} {c : List Value} (hk : Kt T w W) (h1 : 120 ≠ T) (h : SgR w t c) : SgR W t c := by
  cases t with
  | none => exact h
  | some t =>
    obtain ⟨s, e, q⟩ := h
    exact ⟨s, e, Itm.kt hk h1 q⟩
theorem Sgs.kt {l : List (Option Gb.Tst)} (hk : Kt T w W) (h1 : 120 ≠ T) (h2 : 109 ≠ T) (h : Sgs w v l) : Sgs W v l := Ry.kt h hk h2 fun _ _ q => SgR.kt hk h1 q
theorem PtR.kt {p : Option (List (Option Gb.Tst))} {c : List Value} (hk : Kt T w W) (h1 : 120 ≠ T) (h2 : 109 ≠ T) (h : PtR w p c) : PtR W p c := by
  cases p with
  | none => exact h
  | some t =>
    obtain ⟨s, e, q⟩ := h
    exact ⟨s, e, Sgs.kt hk h1 h2 q⟩
theorem Pts.kt {l : List (Option (List (Option Gb.Tst)))} (hk : Kt T w W) (h1 : 120 ≠ T) (h2 : 109 ≠ T) (h3 : 54 ≠ T) (h : Pts w v l) : Pts W v l := Ry.kt h hk h3 fun _ _ q => PtR.kt hk h1 h2 q
theorem RlR.kt {r : Bool × List (Option (List (Option Gb.Tst)))} {c : List Value} (hk : Kt T w W) (h1 : 120 ≠ T) (h2 : 109 ≠ T) (h3 : 54 ≠ T) (h : RlR w r c) : RlR W r c := by
  obtain ⟨s, e, q⟩ := h
  exact ⟨s, e, Pts.kt hk h1 h2 h3 q⟩
theorem Itm.below {l : List (Nat × Nat)} (h : Itm w v l) (hb : Below w.heap.size w W) : Itm W v l := Itm.kt (T := 4) (Kt.of_below hb) (by decide) h
theorem SgR.below {t : Option Gb.Tst} {c : List Value} (h : SgR w t c) (hb : Below w.heap.size w W) : SgR W t c := SgR.kt (T := 4) (Kt.of_below hb) (by decide) h
theorem Sgs.below {l : List (Option Gb.Tst)} (h : Sgs w v l) (hb : Below w.heap.size w W) : Sgs W v l := Sgs.kt (T := 4) (Kt.of_below hb) (by decide) (by decide) h
theorem PtR.below {p : Option (List (Option Gb.Tst))} {c : List Value} (h : PtR w p c) (hb : Below w.heap.size w W) : PtR W p c := PtR.kt (T := 4) (Kt.of_below hb) (by decide) (by decide) h
theorem Pts.below {l : List (Option (List (Option Gb.Tst)))} (h : Pts w v l) (hb : Below w.heap.size w W) : Pts W v l := Pts.kt (T := 4) (Kt.of_below hb) (by decide) (by decide) (by decide) h
theorem RlR.below {r : Bool × List (Option (List (Option Gb.Tst)))} {c : List Value} (h : RlR w r c) (hb : Below w.heap.size w W) : RlR W r c := RlR.kt (T := 4) (Kt.of_below hb) (by decide) (by decide) (by decide) h
theorem Rls.below {l : List (Bool × List (Option (List (Option Gb.Tst))))} (h : Rls w v l) (hb : Below w.heap.size w W) : Rls W v l := Ry.below h hb fun _ _ q => RlR.below q hb
end
end Go.Proofs.YtfcnlfblfennaaaDoor
