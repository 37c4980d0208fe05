/-
  What lies in memory while lumlaw.BloomSays goes on; the sums of its loop.
-/
import Derived.Test.YtpagbihebahnnaaBlLoop
import Derived.Test.YtpagbihebahnnaaBlRef
import Derived.Test.YtpagbihebahnnaaBlMap
namespace Go.Proofs.Ytpagbihebahnnaa
open Go.RowKit

theorem Bb.same {W W' : World} {G : Nat} {b : List Nat} (h : Bb W G b) (e : W'.heap[G]? = W.heap[G]?) (hs : W.heap.size ≤ W'.heap.size) : Bb W' G b :=
  ⟨h.ok, fun j hj => by
    have := h.at_ j hj
    simp only [World.cell?, e] at this ⊢
    exact this, fun j hj => by
    have := h.fz j hj
    simp only [World.frozen?, e] at this ⊢
    exact this, Nat.lt_of_lt_of_le h.lt hs⟩
/-- what came in, what Add and Join made of it -/
structure SW (w W : World) (b c wi bo : List Nat) (x : List UInt8) (g8 g9 : Nat) : Prop where
  hb : Bb W w.heap.size b
  hc : Bb W (w.heap.size + 1) c
  hi : W.rangeAt (w.heap.size + 1 + 1) 0 (idC x)
  il : w.heap.size + 1 + 1 < W.heap.size
  h8 : Bb W g8 wi
  h9 : Bb W g9 bo
  bel : Below w.heap.size w W
theorem SW.past {w W W' : World} {b c wi bo : List Nat} {x : List UInt8} {g8 g9 : Nat} (h : SW w W b c wi bo x g8 g9) (k : Below W.heap.size W W') : SW w W' b c wi bo x g8 g9 :=
  ⟨h.hb.past k, h.hc.past k, rng_below h.hi k h.il, Nat.lt_of_lt_of_le h.il k.size, h.h8.past k, h.h9.past k, h.bel.trans (k.mono h.bel.size)⟩
theorem SW.grown {w W W' : World} {b c wi bo : List Nat} {x : List UInt8} {g8 g9 gm : Nat} (h : SW w W b c wi bo x g8 g9) (k : W.grownBy W' (some gm)) (n0 : w.heap.size ≤ gm) (n1 : gm ≠ w.heap.size) (n2 : gm ≠ w.heap.size + 1) (n3 : gm ≠ w.heap.size + 1 + 1) (n8 : gm ≠ g8) (n9 : gm ≠ g9) : SW w W' b c wi bo x g8 g9 := by
  have bl : ∀ G, G < W.heap.size → gm ≠ G → W'.heap[G]? = W.heap[G]? := fun G hG hne => k.block G hG (fun e => hne (Option.some.inj e).symm)
  refine ⟨h.hb.same (bl _ h.hb.lt n1) k.size, h.hc.same (bl _ h.hc.lt n2) k.size, fun j v hv => ?_, Nat.lt_of_lt_of_le h.il k.size, h.h8.same (bl _ h.h8.lt n8) k.size, h.h9.same (bl _ h.h9.lt n9) k.size, h.bel.grown k h.bel.size (fun j hj => ?_)⟩
  · have e := bl _ h.il n3
    have := h.hi j v hv
    simp only [World.cell?, e] at this ⊢
    exact this
  · obtain rfl : gm = j := by simpa using hj
    exact n0
namespace Bm
/-- of the marks below j all are 1 -/
def allB (b ms : List Nat) (j : Nat) : Bool := (List.range j).all fun k => !decide (k ∈ ms) || bit b k
def cntB (b : List Nat) (j : Nat) : Nat := (List.range j).countP (bit b)
theorem allB_next (b ms : List Nat) (j : Nat) : allB b ms (j + 1) = (allB b ms j && (!decide (j ∈ ms) || bit b j)) := by
  rw [allB, List.range_succ, List.all_append]
  simp [allB]
theorem cntB_next (b : List Nat) (j : Nat) : cntB b (j + 1) = cntB b j + if bit b j then 1 else 0 := by
  rw [cntB, List.range_succ, List.countP_append, cntB, List.countP_singleton]
theorem cntB_le (b : List Nat) (j : Nat) : cntB b j ≤ j := by
  have := List.countP_le_length (p := bit b) (l := List.range j)
  rwa [List.length_range] at this
theorem allB_has {b ms : List Nat} (h : ∀ k ∈ ms, k < 1024) : allB b ms 1024 = has b ms := by
  rw [Bool.eq_iff_iff, has_iff, allB, List.all_eq_true]
  constructor
  · intro h1 k hk
    have := h1 k (List.mem_range.2 (h k hk))
    simpa [hk] using this
  · intro h1 k _
    by_cases e : k ∈ ms
    · simp [e, h1 k e]
    · simp [e]
theorem bits_with {b : List Nat} (hb : Ok b) (ms : List Nat) (h : ∀ k ∈ ms, k < 1024) (k : Nat) : bit (puts b ms) k = (decide (k ∈ ms) || bit b k) := puts_bit h hb k
theorem bits_both {b c : List Nat} (hb : Ok b) (hc : Ok c) (k : Nat) : bit (joins [b, c]) k = (bit b k || bit c k) := by
  show bit (join (join none_ b) c) k = _
  rw [join_none hb, join_bit hb hc]
end Bm
end Go.Proofs.Ytpagbihebahnnaa
