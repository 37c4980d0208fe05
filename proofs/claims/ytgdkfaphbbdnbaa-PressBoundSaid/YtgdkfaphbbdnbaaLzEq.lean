/-
  slices.Equal over two rows of the same tokens; rows of tokens that a call made.
-/
import Derived.Test.YtgdkfaphbbdnbaaLzRow
import Derived.Test.YtgdkfaphbbdnbaaQuietSince
import Derived.Laws.StructEq
namespace Go.Proofs.Ytgdkfaphbbdnbaa
open Go.RowKit

theorem fields_tok : ∃ f0 f1 f2, (Try.prog.fieldsOf 79).toList = [f0, f1, f2] ∧ f0.type = 5 ∧ f0.offset = 0 ∧ f0.name ≠ "_" ∧ f1.type = 3 ∧ f1.offset = 1 ∧ f1.name ≠ "_" ∧ f2.type = 3 ∧ f2.offset = 2 ∧ f2.name ≠ "_" := by
  rw [show (Try.prog.fieldsOf 79) = _ from by unfold Program.fieldsOf; rw [Try.underlying79]]
  exact ⟨_, _, _, rfl, rfl, rfl, by decide, rfl, rfl, by decide, rfl, rfl, by decide⟩
theorem eq_three {P : Program} (W : World) (d : Nat) (xs : Array Value) (f0 f1 f2 : Field) (v0 v1 v2 : Value) (n0 : f0.name ≠ "_") (n1 : f1.name ≠ "_") (n2 : f2.name ≠ "_")
    (p0 : (part f0.type xs f0.offset).run P W = .ok v0 W) (p1 : (part f1.type xs f1.offset).run P W = .ok v1 W) (p2 : (part f2.type xs f2.offset).run P W = .ok v2 W)
    (e0 : (Op.equalIn d f0.type v0 v0).run P W = .ok true W) (e1 : (Op.equalIn d f1.type v1 v1).run P W = .ok true W) (e2 : (Op.equalIn d f2.type v2 v2).run P W = .ok true W) :
    (Op.eqFields d xs xs [f0, f1, f2]).run P W = .ok true W := by
  simp only [Op.eqFields, if_pos n0, if_pos n1, if_pos n2, Sem.run_bind, p0, p1, p2, Result.andThen_ok, e0, e1, e2, Bool.not_true, Bool.false_eq_true, if_false, Sem.run_pure]
theorem tok_eq_at (d : Nat) (W : World) (b : Nat) (n k : Int) :
    (Op.equalIn (d + 1 + 1) 79 (.agg #[.int .u8 b, .int .i64 n, .int .i64 k]) (.agg #[.int .u8 b, .int .i64 n, .int .i64 k])).run Try.prog W = .ok true W := by
  have hp : Try.prog.stoodInHeld 79 = false := by kernel_rfl
  have hf : Try.prog.underlying 79 = some (.struct (Try.prog.fieldsOf 79)) := by kernel_rfl
  obtain ⟨f0, f1, f2, hfs, t0, o0, n0, t1, o1, n1, t2, o2, n2⟩ := fields_tok
  have h0 : (Op.equalIn (d + 1) 5 (.int .u8 (b : Int)) (.int .u8 (b : Int))).run Try.prog W = .ok ((b : Int) == (b : Int)) W := run_equalIn_int W d 5 .u8 .u8 (b : Int) (b : Int) (by kernel_rfl)
  have h1 : (Op.equalIn (d + 1) 3 (.int .i64 n) (.int .i64 n)).run Try.prog W = .ok (n == n) W := run_equalIn_int W d 3 .i64 .i64 n n (by kernel_rfl)
  have h2 : (Op.equalIn (d + 1) 3 (.int .i64 k) (.int .i64 k)).run Try.prog W = .ok (k == k) W := run_equalIn_int W d 3 .i64 .i64 k k (by kernel_rfl)
  rw [beq_self_eq_true] at h0 h1 h2
  rw [run_equalIn_struct W (d + 1) 79 _ _ hf hp, hfs]
  exact eq_three W (d + 1) _ f0 f1 f2 (.int .u8 b) (.int .i64 n) (.int .i64 k) n0 n1 n2 (by rw [t0, o0]; simp [part, go_sem]) (by rw [t1, o1]; simp [part, go_sem]) (by rw [t2, o2]; simp [part, go_sem]) (by rw [t0]; exact h0) (by rw [t1]; exact h1) (by rw [t2]; exact h2)
theorem tok_eq (W : World) (b : Nat) (n k : Int) :
    (Op.equalIn 10000 79 (.agg #[.int .u8 b, .int .i64 n, .int .i64 k]) (.agg #[.int .u8 b, .int .i64 n, .int .i64 k])).run Try.prog W = .ok true W := tok_eq_at 9998 W b n k

/-! ### a row of tokens that a call made -/
def rowC (l : List Lz.Tr) : List Value := l.flatMap tokC
theorem rowC_length (l : List Lz.Tr) : (rowC l).length = 3 * l.length := by
  induction l with
  | nil => rfl
  | cons t l ih => show (tokC t ++ rowC l).length = _; rw [List.length_append, ih, List.length_cons]; simp [tokC]; omega
theorem rowC_more (l : List Lz.Tr) (t : Lz.Tr) : rowC (l ++ [t]) = rowC l ++ tokC t := by simp [rowC]
theorem rowC_get (l : List Lz.Tr) (i r : Nat) (hi : i < l.length) (hr : r < 3) : (rowC l)[3 * i + r]? = (tokC l[i])[r]? := by
  induction l generalizing i with
  | nil => simp at hi
  | cons t l ih =>
    show (tokC t ++ rowC l)[3 * i + r]? = _
    cases i with
    | zero => rw [List.getElem?_append_left (by simp [tokC]; omega)]; simp
    | succ i =>
      rw [List.getElem?_append_right (by simp [tokC]; omega), show 3 * (i + 1) + r - (tokC t).length = 3 * i + r from by simp [tokC]; omega, ih i (by simpa using hi)]
      rfl
theorem Toks.of_own {base : Nat} {w : World} {v : Value} {l : List Lz.Tr} (h : w.ownsRow base 79 3 v l.length (rowC l)) : Toks w v l := by
  rcases h.2 with ⟨rfl, h0⟩ | ⟨g, cap, cur, rfl, hg, hh, _⟩
  · exact ⟨.inl ⟨⟨_, _, rfl⟩, List.length_eq_zero_iff.1 h0⟩⟩
  · refine ⟨.inr ⟨g, 0, cap, rfl, (Array.getElem?_eq_some_iff.1 hh).1, fun j hj => ?_⟩⟩
    have e := fun r (hr : r < 3) => (h.cellAt (3 * j + r) (by omega)).trans (rowC_get l j r hj hr)
    have e0 := e 0 (by omega)
    have e1 := e 1 (by omega)
    have e2 := e 2 (by omega)
    rw [show 3 * j = j * 3 from by omega] at e0 e1 e2
    simp only [Nat.zero_add]
    exact ⟨e0, e1, e2⟩
theorem info_tok : (Try.prog.info? 79).map (fun i => (i.zero, i.size, i.bytes)) = some (some (.agg #[.int .u8 0, .int .i64 0, .int .i64 0]), 3, 24) := by kernel_rfl
theorem own_below {base : Nat} {e : TypeId} {k : Nat} {v : Value} {n : Nat} {xs : List Value} {w w' : World} (h : w.ownsRow base e k v n xs) (hb : Below w.heap.size w w') : w'.ownsRow base e k v n xs := by
  obtain ⟨h1, h2⟩ := h
  refine ⟨h1, ?_⟩
  rcases h2 with h2 | ⟨g, cap, cur, hv, hg, hh, r⟩
  · exact .inl h2
  · refine .inr ⟨g, cap, cur, hv, hg, ?_, r⟩
    rw [hb.block g ?_, hh]
    exact (Array.getElem?_eq_some_iff.1 hh).1
theorem own_lower {base base' : Nat} {e : TypeId} {k : Nat} {v : Value} {n : Nat} {xs : List Value} {w : World} (h : w.ownsRow base e k v n xs) (hb : base' ≤ base) : w.ownsRow base' e k v n xs := by
  obtain ⟨h1, h2⟩ := h
  refine ⟨h1, ?_⟩
  rcases h2 with h2 | ⟨g, cap, cur, hv, hg, r⟩
  · exact .inl h2
  · exact .inr ⟨g, cap, cur, hv, by omega, r⟩
end Go.Proofs.Ytgdkfaphbbdnbaa
