/-
  IDs one after another; an ID laid in a new block; what many Adds make.
-/
import Derived.Test.YtpagbihebahnnaaBlHas
import Derived.Test.YtpagbihebahnnaaBlEq
import Derived.Test.YtpagbihebahnnaaBlCount
namespace Go.Proofs.Ytpagbihebahnnaa
open Go.RowKit

abbrev Z8u : Array Value := #[.int .u8 0, .int .u8 0, .int .u8 0, .int .u8 0, .int .u8 0, .int .u8 0, .int .u8 0, .int .u8 0]
theorem z8_there (W : World) (t : TypeId) {x : List UInt8} (hx : x.length = 8) : (W.alloc (.cells Z8u t)).there W.heap.size 0 (idC x).toArray.size := by
  have e : (idC x).toArray.size = 8 := by rw [List.size_toArray, idC, List.length_map, hx]
  rw [e]
  intro j hj
  rw [Nat.zero_add]
  refine ⟨?_, by simp⟩
  rw [cell_of_row _ W.heap.size j _ _ _ (heap_alloc_new W _)]
  match j, hj with
  | 0, _ => rfl
  | 1, _ => rfl
  | 2, _ => rfl
  | 3, _ => rfl
  | 4, _ => rfl
  | 5, _ => rfl
  | 6, _ => rfl
  | 7, _ => rfl
theorem idC_all (x : List UInt8) : (idC x).toArray.all (·.oneCell') = true := all_oneCell_toArray fun v hv => by
  obtain ⟨b, _, rfl⟩ := List.mem_map.1 hv
  rfl
theorem info_idA {x : List UInt8} (h : x.length = 8) : (Try.prog.info? 26).map (·.size) = some (idC x).toArray.size := by
  rw [List.size_toArray]; exact info_id8 h
/-- an ID laid in a new block -/
theorem laid_id {x : List UInt8} (hx : x.length = 8) (W : World) (t : TypeId) : ∃ W3, (W.alloc (.cells Z8u t)).setCells W.heap.size 0 (idC x) = W3 ∧ W3.rangeAt W.heap.size 0 (idC x) ∧ Below W.heap.size W W3 ∧ W.heap.size < W3.heap.size := by
  have hth : (W.alloc (.cells Z8u t)).there W.heap.size 0 (idC x).length := by
    have := z8_there W t hx
    rwa [List.size_toArray] at this
  refine ⟨_, rfl, World.rangeAt_setCells_same _ _ _ _ hth, below_setCells' W.heap.size (Nat.le_refl _) _ _ _ ((Below.refl _ W).alloc (Nat.le_refl _) _), ?_⟩
  rw [size_setCells]; simp
namespace Bm
/-- what many Adds make -/
def adds (b : List Nat) (l : List (List UInt8)) : List Nat := l.foldl (fun c x => puts c (marks x)) b
theorem adds_ok {b : List Nat} (h : Ok b) : ∀ (l : List (List UInt8)), Ok (adds b l) := by
  intro l
  induction l generalizing b with
  | nil => exact h
  | cons x l ih => exact ih (puts_ok h)
theorem adds_next (b : List Nat) (l : List (List UInt8)) (j : Nat) (x : List UInt8) (hj : l[j]? = some x) : adds b (l.take (j + 1)) = puts (adds b (l.take j)) (marks x) := by
  obtain ⟨h, e⟩ := List.getElem?_eq_some_iff.1 hj
  rw [List.take_succ_eq_append_getElem h, e, adds, List.foldl_append]
  rfl
theorem adds_more {b : List Nat} (h : Ok b) : ∀ (l : List (List UInt8)) {k : Nat}, bit b k = true → bit (adds b l) k = true := by
  intro l
  induction l generalizing b with
  | nil => intro k hk; exact hk
  | cons x l ih => intro k hk; exact ih (puts_ok h) (puts_more h (marks_lt x) hk)
theorem adds_has {b : List Nat} (h : Ok b) : ∀ (l : List (List UInt8)) (x : List UInt8), x ∈ l → has (adds b l) (marks x) = true := by
  intro l
  induction l generalizing b with
  | nil => intro x hx; simp at hx
  | cons y l ih =>
    intro x hx
    rcases List.mem_cons.1 hx with e | e
    · subst e
      exact has_more (fun k hk => adds_more (puts_ok h) l hk) (puts_has h (marks_lt x))
    · exact ih (puts_ok h) x e
theorem adds_join {b : List Nat} (h : Ok b) (l : List (List UInt8)) : joins [b, adds b l] = adds b l := by
  show join (join none_ b) (adds b l) = adds b l
  rw [join_none h]
  exact join_sub h (adds_ok h l) fun k hk => adds_more h l hk
theorem count_adds {b : List Nat} (h : Ok b) : ∀ (l : List (List UInt8)), count (adds b l) ≤ count b + 4 * l.length := by
  intro l
  induction l generalizing b with
  | nil => simp [adds]
  | cons x l ih =>
    have h1 := ih (puts_ok (ms := marks x) h)
    have h2 := count_puts (marks_lt x) h
    have h3 : (marks x).length = 4 := rfl
    show count (adds (puts b (marks x)) l) ≤ _
    rw [List.length_cons]
    omega
end Bm
/-- at work: what came in, what it became -/
structure NS (w W : World) (b c : List Nat) : Prop where
  b0 : Bb W w.heap.size b
  b1 : Bb W (w.heap.size + 1) c
  bel : Below w.heap.size w W
theorem NS.past {w W W' : World} {b c : List Nat} (h : NS w W b c) (hb : Below W.heap.size W W') : NS w W' b c := ⟨h.b0.past hb, h.b1.past hb, h.bel.trans (hb.mono h.bel.size)⟩
theorem NS.store {w W : World} {b c d : List Nat} (h : NS w W b c) (hd : Bm.Ok d) : NS w (W.setCells (w.heap.size + 1) 0 (blmC d)) b d :=
  ⟨h.b0.storeOther (by omega) _, h.b1.store hd, below_setCells' _ (by omega) _ _ _ h.bel⟩
end Go.Proofs.Ytpagbihebahnnaa
