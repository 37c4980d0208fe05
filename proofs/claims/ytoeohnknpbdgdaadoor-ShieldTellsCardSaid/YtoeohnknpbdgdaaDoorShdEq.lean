/-
  Two shards compared; slices.Equal over two rows of the same shards.
-/
import Derived.Test.YtoeohnknpbdgdaaDoorShSx
import Derived.Test.YtoeohnknpbdgdaaDoorQuietSince
import Derived.Laws.StructEq
namespace Go.Proofs.YtoeohnknpbdgdaaDoor
open Go.RowKit

theorem fields_shd : ∃ f0 f1, (Tryd.prog.fieldsOf 31).toList = [f0, f1] ∧ f0.type = 4 ∧ f0.offset = 0 ∧ f0.name ≠ "_" ∧ f1.type = 9 ∧ f1.offset = 1 ∧ f1.name ≠ "_" := by
  rw [show (Tryd.prog.fieldsOf 31) = _ from by unfold Program.fieldsOf; rw [Tryd.underlying31]]
  exact ⟨_, _, rfl, rfl, rfl, by decide, rfl, rfl, by decide⟩
theorem eq_two {P : Program} (W : World) (d : Nat) (xs ys : Array Value) (f0 f1 : Field) (v0 v1 u0 u1 : Value) (b : Bool) (n0 : f0.name ≠ "_") (n1 : f1.name ≠ "_")
    (p0 : (part f0.type xs f0.offset).run P W = .ok v0 W) (p1 : (part f1.type xs f1.offset).run P W = .ok v1 W) (q0 : (part f0.type ys f0.offset).run P W = .ok u0 W) (q1 : (part f1.type ys f1.offset).run P W = .ok u1 W)
    (e0 : (Op.equalIn d f0.type v0 u0).run P W = .ok true W) (e1 : (Op.equalIn d f1.type v1 u1).run P W = .ok b W) :
    (Op.eqFields d xs ys [f0, f1]).run P W = .ok b W := by
  cases b <;> simp only [Op.eqFields, if_pos n0, if_pos n1, Sem.run_bind, p0, p1, q0, q1, Result.andThen_ok, e0, e1, Bool.not_true, Bool.not_false, Bool.false_eq_true, if_false, if_true, Sem.run_pure]
theorem shd_cmp_at (d : Nat) (W : World) (b : Bool) (s t : ByteArray) :
    (Op.equalIn (d + 1 + 1) 31 (.agg #[.bool b, .string s]) (.agg #[.bool b, .string t])).run Tryd.prog W = .ok (s.toList == t.toList) W := by
  have hp : Tryd.prog.stoodInHeld 31 = false := by kernel_rfl
  have hf : Tryd.prog.underlying 31 = some (.struct (Tryd.prog.fieldsOf 31)) := by kernel_rfl
  obtain ⟨f0, f1, hfs, t0, o0, n0, t1, o1, n1⟩ := fields_shd
  have h0 : (Op.equalIn (d + 1) 4 (.bool b) (.bool b)).run Tryd.prog W = .ok true W := by
    have := run_equalIn_bool (P := Tryd.prog) W d 4 b b (by kernel_rfl)
    rwa [beq_self_eq_true] at this
  have h1 : (Op.equalIn (d + 1) 9 (.string s) (.string t)).run Tryd.prog W = .ok (s.toList == t.toList) W := run_equalIn_string (P := Tryd.prog) W d 9 s t (by kernel_rfl)
  rw [run_equalIn_struct W (d + 1) 31 _ _ hf hp, hfs]
  exact eq_two W (d + 1) _ _ f0 f1 (.bool b) (.string s) (.bool b) (.string t) _ n0 n1 (by rw [t0, o0]; simp [part, go_sem]) (by rw [t1, o1]; simp [part, go_sem]) (by rw [t0, o0]; simp [part, go_sem]) (by rw [t1, o1]; simp [part, go_sem]) (by rw [t0]; exact h0) (by rw [t1]; exact h1)
theorem shd_cmp (W : World) (b : Bool) (s t : ByteArray) :
    (Op.equalIn 10000 31 (.agg #[.bool b, .string s]) (.agg #[.bool b, .string t])).run Tryd.prog W = .ok (s.toList == t.toList) W := shd_cmp_at 9998 W b s t
theorem shd_eq (W : World) (b : Bool) (s : ByteArray) :
    (Op.equalIn 10000 31 (.agg #[.bool b, .string s]) (.agg #[.bool b, .string s])).run Tryd.prog W = .ok true W := by
  rw [shd_cmp]; rw [beq_self_eq_true]
end Go.Proofs.YtoeohnknpbdgdaaDoor
