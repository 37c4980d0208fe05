/-
  A Roll is equal to itself.
-/
import Derived.Test.YtipoponlfedplaaRollCells
import Derived.Laws.StructEq
import Derived.Stop.BytesEq
namespace Go.Proofs.Ytipoponlfedplaa
open Go.RowKit

theorem arr16_eq (W : World) (d : Nat) (xs ys : List UInt8) (hx : xs.length = 16) (hy : ys.length = 16) :
    (Op.equalIn (d + 2) 23 (.agg (xs.map B).toArray) (.agg (ys.map B).toArray)).run Try.prog W = .ok (xs == ys) W :=
  run_equalIn_bytes (P := Try.prog) W d 23 5 16 (by kernel_rfl) (by kernel_rfl) (fun w => by go_simp) xs ys hx hy
theorem fields_roll : ∃ f0 f1 f2, (Try.prog.fieldsOf 25).toList = [f0, f1, f2] ∧ f0.type = 23 ∧ f0.offset = 0 ∧ f0.name ≠ "_" ∧ f1.type = 3 ∧ f1.offset = 16 ∧ f1.name ≠ "_" ∧ f2.type = 22 ∧ f2.offset = 17 ∧ f2.name ≠ "_" := by
  rw [show (Try.prog.fieldsOf 25) = _ from by unfold Program.fieldsOf; rw [Try.underlying25]]
  exact ⟨_, _, _, rfl, rfl, rfl, by decide, rfl, rfl, by decide, rfl, rfl, by decide⟩
theorem part_win (W : World) (l : List UInt8) (i : Int) (o : Nat) (hl : l.length = 16) : (part 23 (rollCells l i o).toArray 0).run Try.prog W = .ok (.agg (l.map B).toArray) W := by
  have h : List.take 16 (rollCells l i o) = List.map B l := by
    rw [rollCells, List.take_append_of_le_length (by rw [List.length_map]; omega), List.take_of_length_le (by rw [List.length_map]; omega)]
  simp [part, go_sem, h]
theorem part_at (W : World) (l : List UInt8) (i : Int) (o : Nat) (hl : l.length = 16) : (part 3 (rollCells l i o).toArray 16).run Try.prog W = .ok (.int .i64 i) W := by
  have h := rollCells_16 hl i o
  simp [part, go_sem, h]
theorem part_sum (W : World) (l : List UInt8) (i : Int) (o : Nat) (hl : l.length = 16) : (part 22 (rollCells l i o).toArray 17).run Try.prog W = .ok (.int .u32 (o : Int)) W := by
  have h := rollCells_17 hl i o
  simp [part, go_sem, h]
theorem eq_three {P : Program} (W : World) (d : Nat) (xs : Array Value) (f0 f1 f2 : Field) (v0 v1 v2 : Value) (n0 : f0.name ≠ "_") (n1 : f1.name ≠ "_") (n2 : f2.name ≠ "_")
    (p0 : (part f0.type xs f0.offset).run P W = .ok v0 W) (p1 : (part f1.type xs f1.offset).run P W = .ok v1 W) (p2 : (part f2.type xs f2.offset).run P W = .ok v2 W)
    (e0 : (Op.equalIn d f0.type v0 v0).run P W = .ok true W) (e1 : (Op.equalIn d f1.type v1 v1).run P W = .ok true W) (e2 : (Op.equalIn d f2.type v2 v2).run P W = .ok true W) :
    (Op.eqFields d xs xs [f0, f1, f2]).run P W = .ok true W := by
  simp only [Op.eqFields, if_pos n0, if_pos n1, if_pos n2, Sem.run_bind, p0, p1, p2, Result.andThen_ok, e0, e1, e2, Bool.not_true, Bool.false_eq_true, if_false, Sem.run_pure]
theorem roll_eq_at (d : Nat) (W : World) (l : List UInt8) (i : Int) (o : Nat) (hl : l.length = 16) :
    (Op.equalIn (d + 2 + 1) 25 (.agg (rollCells l i o).toArray) (.agg (rollCells l i o).toArray)).run Try.prog W = .ok true W := by
  have hp : Try.prog.stoodInHeld 25 = false := by kernel_rfl
  have hf : Try.prog.underlying 25 = some (.struct (Try.prog.fieldsOf 25)) := by kernel_rfl
  obtain ⟨f0, f1, f2, hfs, t0, o0, n0, t1, o1, n1, t2, o2, n2⟩ := fields_roll
  have h1 : (Op.equalIn (d + 2) 3 (.int .i64 i) (.int .i64 i)).run Try.prog W = .ok (i == i) W := run_equalIn_int W (d + 1) 3 .i64 .i64 i i (by kernel_rfl)
  have h2 : (Op.equalIn (d + 2) 22 (.int .u32 (o : Int)) (.int .u32 (o : Int))).run Try.prog W = .ok ((o : Int) == (o : Int)) W := run_equalIn_int W (d + 1) 22 .u32 .u32 (o : Int) (o : Int) (by kernel_rfl)
  have h0 := arr16_eq W d l l hl hl
  rw [beq_self_eq_true] at h0 h1 h2
  rw [run_equalIn_struct W (d + 2) 25 _ _ hf hp, hfs]
  exact eq_three W (d + 2) _ f0 f1 f2 _ _ _ n0 n1 n2 (by rw [t0, o0]; exact part_win W l i o hl) (by rw [t1, o1]; exact part_at W l i o hl) (by rw [t2, o2]; exact part_sum W l i o hl) (by rw [t0]; exact h0) (by rw [t1]; exact h1) (by rw [t2]; exact h2)
theorem roll_eq (W : World) (l : List UInt8) (i : Int) (o : Nat) (hl : l.length = 16) :
    (Op.equalIn 10000 25 (.agg (rollCells l i o).toArray) (.agg (rollCells l i o).toArray)).run Try.prog W = .ok true W :=
  roll_eq_at 9997 W l i o hl
end Go.Proofs.Ytipoponlfedplaa
