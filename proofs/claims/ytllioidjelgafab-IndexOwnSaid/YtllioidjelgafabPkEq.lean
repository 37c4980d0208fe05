/-
  When two blobs, two rows of a pack's list, two IDs are equal.
-/
import Derived.Test.YtllioidjelgafabPkMem
import Derived.Test.YtllioidjelgafabArrEq
import Derived.Laws.StructEq
namespace Go.Proofs.Ytllioidjelgafab
open Go.RowKit

theorem eq_fields2 {P : Program} (W : World) (d : Nat) (xs ys : Array Value) (f0 f1 : Field) (v0 v1 u0 u1 : Value) (a b : Bool) (n0 : f0.name ≠ "_") (n1 : f1.name ≠ "_")
    (p0 : (part f0.type xs f0.offset).run P W = .ok v0 W) (p1 : (part f1.type xs f1.offset).run P W = .ok v1 W) (q0 : (part f0.type ys f0.offset).run P W = .ok u0 W) (q1 : (part f1.type ys f1.offset).run P W = .ok u1 W)
    (e0 : (Op.equalIn d f0.type v0 u0).run P W = .ok a W) (e1 : (Op.equalIn d f1.type v1 u1).run P W = .ok b W) :
    (Op.eqFields d xs ys [f0, f1]).run P W = .ok (a && b) W := by
  cases a <;> cases b <;> simp only [Op.eqFields, if_pos n0, if_pos n1, Sem.run_bind, p0, p1, q0, q1, Result.andThen_ok, e0, e1, Bool.not_true, Bool.not_false, Bool.false_eq_true, if_false, if_true, Sem.run_pure, Bool.and_true, Bool.and_false, Bool.and_self]

theorem eq_fields4 {P : Program} (W : World) (d : Nat) (xs : Array Value) (f0 f1 f2 f3 : Field) (v0 v1 v2 v3 : Value) (n0 : f0.name ≠ "_") (n1 : f1.name ≠ "_") (n2 : f2.name ≠ "_") (n3 : f3.name ≠ "_")
    (p0 : (part f0.type xs f0.offset).run P W = .ok v0 W) (p1 : (part f1.type xs f1.offset).run P W = .ok v1 W) (p2 : (part f2.type xs f2.offset).run P W = .ok v2 W) (p3 : (part f3.type xs f3.offset).run P W = .ok v3 W)
    (e0 : (Op.equalIn d f0.type v0 v0).run P W = .ok true W) (e1 : (Op.equalIn d f1.type v1 v1).run P W = .ok true W) (e2 : (Op.equalIn d f2.type v2 v2).run P W = .ok true W) (e3 : (Op.equalIn d f3.type v3 v3).run P W = .ok true W) :
    (Op.eqFields d xs xs [f0, f1, f2, f3]).run P W = .ok true W := by
  simp only [Op.eqFields, if_pos n0, if_pos n1, if_pos n2, if_pos n3, Sem.run_bind, p0, p1, p2, p3, Result.andThen_ok, e0, e1, e2, e3, Bool.not_true, Bool.false_eq_true, if_false, Sem.run_pure]

/-- are two blobs the same? -/
def blSame (a b : Blb) : Bool := (a.kind == b.kind) && (a.bytes.toList == b.bytes.toList)

theorem blSame_self (a : Blb) : blSame a a = true := by simp [blSame]

theorem blSame_iff {a b : Blb} : blSame a b = true ↔ a = b := by
  constructor
  · intro h
    simp only [blSame, Bool.and_eq_true, beq_iff_eq, Lib.toList_data] at h
    exact Blb.p_inj (Prod.ext h.1 h.2)
  · rintro rfl
    exact blSame_self a

theorem fields_en : ∃ f0 f1 f2 f3, (Try.prog.fieldsOf 40).toList = [f0, f1, f2, f3] ∧ f0.type = 27 ∧ f0.offset = 0 ∧ f0.name ≠ "_" ∧ f1.type = 3 ∧ f1.offset = 8 ∧ f1.name ≠ "_" ∧ f2.type = 3 ∧ f2.offset = 9 ∧ f2.name ≠ "_" ∧ f3.type = 3 ∧ f3.offset = 10 ∧ f3.name ≠ "_" := by
  rw [show (Try.prog.fieldsOf 40) = _ from by unfold Program.fieldsOf; rw [Try.underlying40]]
  exact ⟨_, _, _, _, rfl, rfl, rfl, by decide, rfl, rfl, by decide, rfl, rfl, by decide, rfl, rfl, by decide⟩

theorem part_id (W : World) (e : Ent) : (part 27 (enC e).toArray 0).run Try.prog W = .ok (.agg (e.id.map B).toArray) W := by
  have h : List.take 8 (enC e) = List.map B e.id := by
    rw [enC, List.take_append_of_le_length (by rw [List.length_map, e.hid]; omega), List.take_of_length_le (by rw [List.length_map, e.hid]; omega)]
  simp [part, go_sem, h]

theorem enC_8 (e : Ent) : (enC e)[8]? = some (.int .i64 e.kind) := by
  rw [enC, List.getElem?_append_right (by simp [e.hid]), List.length_map, e.hid]; rfl

theorem enC_9 (e : Ent) : (enC e)[9]? = some (.int .i64 e.at_) := by
  rw [enC, List.getElem?_append_right (by simp [e.hid]), List.length_map, e.hid]; rfl

theorem enC_10 (e : Ent) : (enC e)[10]? = some (.int .i64 e.len) := by
  rw [enC, List.getElem?_append_right (by simp [e.hid]), List.length_map, e.hid]; rfl

theorem part_kind (W : World) (e : Ent) : (part 3 (enC e).toArray 8).run Try.prog W = .ok (.int .i64 e.kind) W := by
  have h := enC_8 e
  simp [part, go_sem, h]

theorem part_at_ (W : World) (e : Ent) : (part 3 (enC e).toArray 9).run Try.prog W = .ok (.int .i64 e.at_) W := by
  have h := enC_9 e
  simp [part, go_sem, h]

theorem part_len (W : World) (e : Ent) : (part 3 (enC e).toArray 10).run Try.prog W = .ok (.int .i64 e.len) W := by
  have h := enC_10 e
  simp [part, go_sem, h]

theorem id_eq_at (W : World) (d : Nat) (xs ys : List UInt8) (hx : xs.length = 8) (hy : ys.length = 8) :
    (Op.equalIn (d + 2) 27 (.agg (xs.map B).toArray) (.agg (ys.map B).toArray)).run Try.prog W = .ok (xs == ys) W :=
  run_equalIn_bytes (P := Try.prog) W d 27 5 8 (by kernel_rfl) (by kernel_rfl) (fun w => by go_simp) xs ys hx hy

theorem en_eq_at (d : Nat) (W : World) (e : Ent) :
    (Op.equalIn (d + 2 + 1) 40 (.agg (enC e).toArray) (.agg (enC e).toArray)).run Try.prog W = .ok true W := by
  have hp : Try.prog.stoodInHeld 40 = false := by kernel_rfl
  have hf : Try.prog.underlying 40 = some (.struct (Try.prog.fieldsOf 40)) := by kernel_rfl
  obtain ⟨f0, f1, f2, f3, hfs, t0, o0, n0, t1, o1, n1, t2, o2, n2, t3, o3, n3⟩ := fields_en
  have hi : ∀ i : Int, (Op.equalIn (d + 2) 3 (.int .i64 i) (.int .i64 i)).run Try.prog W = .ok true W := fun i => by
    have := run_equalIn_int (P := Try.prog) W (d + 1) 3 .i64 .i64 i i (by kernel_rfl)
    rwa [beq_self_eq_true] at this
  have h0 := id_eq_at W d e.id e.id e.hid e.hid
  rw [beq_self_eq_true] at h0
  rw [run_equalIn_struct W (d + 2) 40 _ _ hf hp, hfs]
  exact eq_fields4 W (d + 2) _ f0 f1 f2 f3 _ _ _ _ n0 n1 n2 n3 (by rw [t0, o0]; exact part_id W e) (by rw [t1, o1]; exact part_kind W e) (by rw [t2, o2]; exact part_at_ W e) (by rw [t3, o3]; exact part_len W e) (by rw [t0]; exact h0) (by rw [t1]; exact hi _) (by rw [t2]; exact hi _) (by rw [t3]; exact hi _)

theorem en_eq (W : World) (e : Ent) : (Op.equalIn 10000 40 (.agg (enC e).toArray) (.agg (enC e).toArray)).run Try.prog W = .ok true W := en_eq_at 9997 W e

end Go.Proofs.Ytllioidjelgafab
