/-
  A map of ints by ints: where each of the first things of an order stands.
-/
import Derived.Test.YtoibiaikbgkbpaaBlMap
import Derived.Test.YtoibiaikbgkbpaaGrCyc
namespace Go.Proofs.Ytoibiaikbgkbpaa
open Go.RowKit Go.WideMaps
open Go.Maps (Keyed IsMap Tidy)

/-- block b is a map of at most n entries: of the first j of the order, where each stands -/
def Mo (w : World) (b n : Nat) (out : List Int) (j : Nat) : Prop :=
  ∃ D, w.ownsMap Try.prog 3 heldI b n D ∧ Maps.size D = j ∧ ∀ k : Nat, k < 1024 → Maps.has D (.int .i64 (k : Int)) = decide ((k : Int) ∈ out.take j) ∧ D.atKey (.int .i64 (k : Int)) (.held (.int .i64 0)) = .held (.int .i64 (Gr.pos out j k))

theorem Mo.new (w : World) (out : List Int) : Mo (w.alloc (.map #[] 0)) w.heap.size 0 out 0 :=
  ⟨_, World.ownsMap_made w Try.prog 3 heldI, rfl, fun k _ => ⟨by simp [Maps.has], rfl⟩⟩

theorem Mo.lt {w : World} {b n : Nat} {out : List Int} {j : Nat} (h : Mo w b n out j) : b < w.heap.size := by
  obtain ⟨D, h, _⟩ := h
  exact h.lt

theorem Mo.below {w w' : World} {b n : Nat} {out : List Int} {j : Nat} (h : Mo w b n out j) (hb : Below w.heap.size w w') : Mo w' b n out j := by
  obtain ⟨D, h, h2⟩ := h
  have hlt := h.lt
  obtain ⟨es, clock, hbk, F, hs, hD⟩ := h
  exact ⟨D, ⟨es, clock, (hb.block b hlt).trans hbk, F, hs, hD⟩, h2⟩

theorem Mo.look {w : World} {b n : Nat} {out : List Int} {j : Nat} (h : Mo w b n out j) {t : TypeId} (ht : Try.prog.underlying t = some (.map 3 3)) (hz : (zeroValue 3).run Try.prog w = .ok (.int .i64 0) w) {k : Nat} (hk : k < 1024) :
    (Instr.lookup t (.map (some b)) (.int .i64 (k : Int)) false).run Try.prog w = .ok (.int .i64 (Gr.pos out j k)) w := by
  obtain ⟨D, h, _, h1⟩ := h
  obtain ⟨v, ps, hr, hv⟩ := h.lookup int_key ht hz (zd := .held (.int .i64 0)) (zp := []) rfl (key_int k hk)
  rw [(h1 k hk).2] at hv
  rw [hr, heldI_inv hv]

theorem Mo.count {w : World} {b n : Nat} {out : List Int} {j : Nat} (h : Mo w b n out j) {t : TypeId} (ht : Try.prog.underlying t = some (.map 3 3)) (ty : TypeId) :
    (Builtin.len_ #[t] ty #[.map (some b)]).run Try.prog w = .ok (.int .i64 j) w := by
  obtain ⟨D, h, h1, _⟩ := h
  rw [h.len ht, h1]

theorem Mo.put {w : World} {b n : Nat} {out : List Int} {j : Nat} (h : Mo w b n out j) {t : TypeId} (ht : Try.prog.underlying t = some (.map 3 3)) (hj : j < out.length) {k : Nat} (e : out[j] = (k : Int)) (hnew : out[j] ∉ out.take j) (hk : k < 1024) (hm : n < 1000) :
    ∃ w', (Instr.mapUpdate t (.map (some b)) (.int .i64 (k : Int)) (.int .i64 ((j : Int) + 1))).run Try.prog w = .ok () w' ∧ Mo w' b (n + 1) out (j + 1) ∧ w.grownBy w' (some b) := by
  obtain ⟨D, h, h0, h1⟩ := h
  have hI := h.isMap
  have hT := h.tidy int_key
  obtain ⟨w', hr, ho, hg⟩ := h.update int_key ht (by unfold maxLen; omega) (d := .held (.int .i64 ((j : Int) + 1))) (ps := []) (key_int k hk) rfl
  refine ⟨w', hr, ⟨_, ho, ?_, fun q hq => ?_⟩, hg⟩
  · rw [Maps.size_put hT, (h1 k hk).1, ← e, if_neg (by simpa using hnew), h0]
  · have ht2 : out.take (j + 1) = out.take j ++ [(k : Int)] := by rw [List.take_succ_eq_append_getElem hj, e]
    have hp : Gr.pos out (j + 1) q = if (k : Int) = (q : Int) then j + 1 else Gr.pos out j q := by
      rw [Gr.pos, List.getD_eq_getElem?_getD, List.getElem?_eq_getElem hj]
      show (if out[j] = _ then _ else _) = _
      rw [e]
    rw [hp, ht2]
    by_cases f : q = k
    · subst f
      rw [Maps.has_put_same hI (int_key.key (key_int q hq)), Maps.atKey_put_same hI (int_key.key (key_int q hq)), if_pos rfl]
      exact ⟨by simp, by simp⟩
    · have hne : (Lit.int .i64 (q : Int)) ≠ .int .i64 (k : Int) := fun h => f (by
        have := (Lit.int.inj h).2
        omega)
      rw [Maps.has_put_other hne, Maps.atKey_put_other hne, (h1 q hq).1, (h1 q hq).2, if_neg (by omega)]
      refine ⟨?_, rfl⟩
      rw [decide_eq_decide, List.mem_append, List.mem_singleton]
      exact ⟨.inl, fun z => z.resolve_right (by omega)⟩

end Go.Proofs.Ytoibiaikbgkbpaa
