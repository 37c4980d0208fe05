/-
  Rows by their places; rows of one's own that stay aside.
-/
import Derived.Test.YtoibiaikbgkbpaaKpMem
import Derived.Test.YtoibiaikbgkbpaaKept
namespace Go.Proofs.Ytoibiaikbgkbpaa
open Go.RowKit

/-- a row by its places -/
def fl (n : Nat) (f : Nat → Bool) : List Bool := (List.range n).map f
theorem fl_length (n : Nat) (f : Nat → Bool) : (fl n f).length = n := by simp [fl]
theorem fl_get (n : Nat) (f : Nat → Bool) {i : Nat} (h : i < n) : (fl n f)[i]? = some (f i) := by simp [fl, h]
theorem fl_ext {n : Nat} {f g : Nat → Bool} (h : ∀ i, i < n → f i = g i) : fl n f = fl n g := by
  apply List.ext_getElem?
  intro i
  by_cases hi : i < n
  · rw [fl_get n f hi, fl_get n g hi, h i hi]
  · rw [List.getElem?_eq_none (by rw [fl_length]; omega), List.getElem?_eq_none (by rw [fl_length]; omega)]
theorem fl_set (n : Nat) (f : Nat → Bool) (k : Nat) (b : Bool) : (fl n f).set k b = fl n (fun i => if i = k then b else f i) := by
  apply List.ext_getElem?
  intro i
  by_cases hi : i < n
  · rw [fl_get _ _ hi, List.getElem?_set]
    by_cases e : k = i
    · subst e; rw [if_pos rfl, if_pos rfl, if_pos (by rw [fl_length]; exact hi)]
    · rw [if_neg e, if_neg (fun x => e x.symm), fl_get n f hi]
  · rw [List.getElem?_eq_none (by rw [List.length_set, fl_length]; omega), List.getElem?_eq_none (by rw [fl_length]; omega)]
theorem fl_false (n : Nat) : List.replicate n false = fl n (fun _ => false) := by
  apply List.ext_getElem?
  intro i
  by_cases hi : i < n
  · rw [fl_get _ _ hi, List.getElem?_replicate, if_pos hi]
  · rw [List.getElem?_eq_none (by simp; omega), List.getElem?_eq_none (by rw [fl_length]; omega)]

theorem own_under {base : Nat} {e : TypeId} {k n m c g : Nat} {xs : List Value} {w w' : World} {B : Nat} (h : w.ownsRow base e k (.slice (some ⟨g, 0, none⟩) m c) n xs) (hb : Below B w w') (hg : g < B) : w'.ownsRow base e k (.slice (some ⟨g, 0, none⟩) m c) n xs := by
  obtain ⟨h1, h2⟩ := h
  refine ⟨h1, ?_⟩
  rcases h2 with h2 | ⟨g', cap, cur, hv, hg', hh, r⟩
  · exact .inl h2
  · have e : g' = g := by
      have := hv
      simp only [Value.slice.injEq, Option.some.injEq, Addr.mk.injEq] at this
      exact this.1.1.symm
    refine .inr ⟨g', cap, cur, hv, hg', ?_, r⟩
    rw [hb.block g' (by omega), hh]

theorem own_aside {base : Nat} {e : TypeId} {k : Nat} {v : Value} {n : Nat} {xs : List Value} {w : World} (h : w.ownsRow base e k v n xs) {a : Addr} (ha : a.block < base) (x : Value) : (w.setCell a x).ownsRow base e k v n xs := by
  obtain ⟨h1, h2⟩ := h
  refine ⟨h1, ?_⟩
  rcases h2 with h2 | ⟨g, cap, cur, hv, hg, hh, r⟩
  · exact .inl h2
  · refine .inr ⟨g, cap, cur, hv, hg, ?_, r⟩
    rw [Below.heap_setCell _ _ _ _ (by omega), hh]

theorem own_int {base : Nat} {w wr w1 : World} {v v1 : Value} {l : List Int} {x : Int} {o : Obj} (hown : wr.ownsRow base 3 1 v l.length (l.map Iv))
    (hown1 : w1.ownsRow base 3 1 v1 (l.length + 1) (l.map Iv ++ [.int .i64 x])) (hg : (wr.alloc o).grownBy w1 v.ownBlock) (hbel : Below base w wr) (hbase : base ≤ w.heap.size) :
    w1.ownsRow base 3 1 v1 (l ++ [x]).length ((l ++ [x]).map Iv) ∧ Below base w w1 := by
  refine ⟨by simpa [Iv] using hown1, ?_⟩
  have hs := hbel.size
  refine (hbel.alloc (by omega) o).grown hg (by simp; omega) ?_
  intro k hk
  exact (hown.lt k hk).1

theorem own_there {base : Nat} {e : TypeId} {k n m c g : Nat} {xs : List Value} {w : World} (h : w.ownsRow base e k (.slice (some ⟨g, 0, none⟩) m c) n xs) : g < w.heap.size := by
  rcases h.2 with ⟨h2, _⟩ | ⟨g', cap, cur, hv, hg', hh, r⟩
  · simp at h2
  · have e : g' = g := by
      have := hv
      simp only [Value.slice.injEq, Option.some.injEq, Addr.mk.injEq] at this
      exact this.1.1.symm
    rw [← e]
    exact (Array.getElem?_eq_some_iff.1 hh).1

end Go.Proofs.Ytoibiaikbgkbpaa
