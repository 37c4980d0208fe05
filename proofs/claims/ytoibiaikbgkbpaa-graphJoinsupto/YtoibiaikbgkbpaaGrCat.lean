/-
  Numbers that came in, appended behind a row of one's own.
-/
import Derived.Test.YtoibiaikbgkbpaaGrClone
import Derived.Test.YtoibiaikbgkbpaaGrOrder
namespace Go.Proofs.Ytoibiaikbgkbpaa
open Go.RowKit

theorem cat_ints {base : Nat} {v u : Value} {A B : List Int} {w : World} (h : w.ownsRow base 3 1 v A.length (A.map Iv)) (hu : Ints w u B) (hb : (A.length + B.length) * 8 ≤ 140737488355328) (hbase : base ≤ w.heap.size) :
    ∃ v' w', (Builtin.append_ #[23, 23] 23 #[v, u]).run Try.prog w = .ok v' w' ∧ w'.ownsRow base 3 1 v' (A ++ B).length ((A ++ B).map Iv) ∧ w.grownBy w' v.ownBlock := by
  obtain ⟨i0, hi, hz0, hz1, hz2⟩ := info_parts info_int
  obtain ⟨a, c, rfl⟩ := hu.slice
  cases a with
  | none =>
    have h0 : B.length = 0 := hu.src.1 rfl
    obtain rfl : B = [] := List.length_eq_zero_iff.1 h0
    refine ⟨v, w, append_none_c w base 23 23 3 i0 1 Try.underlying23 hi v A.length _ h c, by simpa using h, ⟨rfl, rfl, rfl, Nat.le_refl _, fun _ _ _ => rfl⟩⟩
  | some ad =>
    obtain ⟨v', w', h1, h2, h3, _⟩ := run_append_own (P := Try.prog) (w := w) base 23 23 3 i0 (.int .i64 0) 1 8 Try.underlying23 hi hz0 hz1 hz2 rfl (by decide) v A.length _ h ad B.length c (B.map Iv) (by simp) (hu.src.2 _ rfl) (iv_one B) (by unfold maxLen; omega) hb hbase
    exact ⟨v', w', h1, by simpa using h2, h3⟩

/-- a step of the walk: an append whose run is known -/
theorem gr_append_run {P : Program} {w : World} {ops : Array Oper} {rest : List Oper} {o : Oper} {a : Act} {Q : Exit → Act → World → Prop} (hw : o.guard = none) (s x : Operand) (t ty : TypeId)
    (ho : o.op = .call { callee := .builtin .append, args := #[s, x], argTypes := #[t, t] }) (hty : o.type = ty) (v u v' : Value) (w' : World) (hs : a.eval s = v) (hx : a.eval x = u)
    (hr : (Builtin.append_ #[t, t] ty #[v, u]).run P w = .ok v' w') (h : wpList P ops Q rest (a.put o.dst v') w') : wpList P ops Q (o :: rest) a w :=
  wpList_plain hw fun K hK => by
    unfold Oper.wp
    simp [execOp, ho, resolve, invoke, builtin, hs, hx, hty, hr, Result.andThen]
    exact hK _ _ h

end Go.Proofs.Ytoibiaikbgkbpaa
