/-
  A map of ints: which keys stand at 1.
-/
import Derived.Test.YtoibiaikbgkbpaaBase
import Derived.Test.YtoibiaikbgkbpaaKept
import Derived.Maps.OwnSet
import Derived.Maps.Views
import Derived.Maps.Keyed
namespace Go.Proofs.Ytoibiaikbgkbpaa
open Go.RowKit Go.WideMaps
open Go.Maps (Keyed IsMap)

theorem int_key : Keyed Try.prog 3 := Maps.int_keyed Try.underlying3
theorem key_int (k : Nat) (hk : k < 1024) : keyOf Try.prog 3 (.int .i64 (k : Int)) = some (.int .i64 (k : Int)) := by
  simp [keyOf, mapKey, Try.underlying3, Lit.wf, IntKind.min, IntKind.max, IntKind.signed, IntKind.bits]
  omega
/-- an element as it is -/
def heldI (v : Value) : Option (DataW Value × List MemPlace) := some (.held v, [])
theorem heldI_inv {v z : Value} {ps : List MemPlace} (h : heldI v = some (.held z, ps)) : v = z := by
  simp only [heldI, Option.some.injEq, Prod.mk.injEq, DataW.held.injEq] at h
  exact h.1
/-- block b is a map of at most n entries: at the keys ks below 1024 stands 1, at no other one anything -/
def Mi (w : World) (b n : Nat) (ks : List Nat) : Prop :=
  ∃ D, w.ownsMap Try.prog 3 heldI b n D ∧ ∀ k : Nat, k < 1024 → D.atKey (.int .i64 (k : Int)) (.held (.int .i64 0)) = .held (.int .i64 (if k ∈ ks then 1 else 0))
theorem Mi.new (w : World) : Mi (w.alloc (.map #[] 0)) w.heap.size 0 [] :=
  ⟨_, World.ownsMap_made w Try.prog 3 heldI, fun k _ => by rw [if_neg (by simp)]; rfl⟩
theorem Mi.lt {w : World} {b n : Nat} {ks : List Nat} (h : Mi w b n ks) : b < w.heap.size := by
  obtain ⟨D, h, _⟩ := h
  exact h.lt
theorem Mi.below {w w' : World} {b n : Nat} {ks : List Nat} (h : Mi w b n ks) (hb : Below w.heap.size w w') : Mi w' b n ks := by
  obtain ⟨D, h, h2⟩ := h
  have hlt := h.lt
  obtain ⟨es, clock, hbk, F, hs, hD⟩ := h
  exact ⟨D, ⟨es, clock, (hb.block b hlt).trans hbk, F, hs, hD⟩, h2⟩
theorem Mi.look {w : World} {b n : Nat} {ks : List Nat} (h : Mi w b n ks) {t : TypeId} (ht : Try.prog.underlying t = some (.map 3 3)) (hz : (zeroValue 3).run Try.prog w = .ok (.int .i64 0) w) {k : Nat} (hk : k < 1024) :
    (Instr.lookup t (.map (some b)) (.int .i64 (k : Int)) false).run Try.prog w = .ok (.int .i64 (if k ∈ ks then 1 else 0)) w := by
  obtain ⟨D, h, h1⟩ := h
  obtain ⟨v, ps, hr, hv⟩ := h.lookup int_key ht hz (zd := .held (.int .i64 0)) (zp := []) rfl (key_int k hk)
  rw [h1 k hk] at hv
  rw [hr, heldI_inv hv]
theorem Mi.put {w : World} {b n : Nat} {ks : List Nat} (h : Mi w b n ks) {t : TypeId} (ht : Try.prog.underlying t = some (.map 3 3)) {k : Nat} (hk : k < 1024) (hm : n < 1000) :
    ∃ w', (Instr.mapUpdate t (.map (some b)) (.int .i64 (k : Int)) (.int .i64 1)).run Try.prog w = .ok () w' ∧ Mi w' b (n + 1) (ks ++ [k]) ∧ w.grownBy w' (some b) := by
  obtain ⟨D, h, h1⟩ := h
  have hI := h.isMap
  obtain ⟨w', hr, ho, hg⟩ := h.update int_key ht (by unfold maxLen; omega) (d := .held (.int .i64 1)) (ps := []) (key_int k hk) rfl
  refine ⟨w', hr, ⟨_, ho, fun q hq => ?_⟩, hg⟩
  by_cases e : q = k
  · subst e
    rw [Maps.atKey_put_same hI (int_key.key (key_int q hq)), if_pos (by simp)]
  · have hne : (Lit.int .i64 (q : Int)) ≠ .int .i64 (k : Int) := fun h => e (by
      have := (Lit.int.inj h).2
      omega)
    rw [Maps.atKey_put_other hne, h1 q hq]
    by_cases f : q ∈ ks
    · rw [if_pos f, if_pos (by simp [f])]
    · rw [if_neg f, if_neg (by simp [f, e])]
end Go.Proofs.Ytoibiaikbgkbpaa
