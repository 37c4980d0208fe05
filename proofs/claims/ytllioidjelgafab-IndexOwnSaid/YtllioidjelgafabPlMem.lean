/-
  Places of an index as they lie in memory, and when two of them are equal.
-/
import Derived.Test.YtllioidjelgafabPkEq
import Derived.Test.YtllioidjelgafabIxLaws
import Derived.Test.YtllioidjelgafabIxLess
namespace Go.Proofs.Ytllioidjelgafab
open Go.RowKit

theorem oct {α : Type} (l : List α) (h : l.length = 8) : ∃ a b c d e f g k, l = [a, b, c, d, e, f, g, k] := by
  match l, h with
  | [a, b, c, d, e, f, g, k], _ => exact ⟨a, b, c, d, e, f, g, k, rfl⟩
/-- a place as it is handed in -/
structure Plc where
  id : List UInt8
  hid : id.length = 8
  kind : Int
  pack : Int
  at_ : Int
  len : Int
def Plc.p (e : Plc) : Ix.Pl := ⟨e.id, e.kind, e.pack, e.at_, e.len⟩
abbrev ps (l : List Plc) : List Ix.Pl := l.map Plc.p
theorem Plc.p_inj {a b : Plc} (h : a.p = b.p) : a = b := by
  obtain ⟨i, hi, k, p, q, r⟩ := a
  obtain ⟨i', hi', k', p', q', r'⟩ := b
  simp only [Plc.p, Ix.Pl.mk.injEq] at h
  obtain ⟨rfl, rfl, rfl, rfl, rfl⟩ := h
  rfl
theorem pls_once {a b : List Plc} (h : ps a = ps b) : a = b := (List.map_inj_right fun _ _ => Plc.p_inj).1 h
theorem ps_ids (l : List Plc) : Ix.Ids (ps l) := fun p hp => by
  obtain ⟨e, _, rfl⟩ := List.mem_map.1 hp
  exact e.hid
/-- every place with eight bytes of digest comes so -/
theorem ps_of : ∀ {x : List Ix.Pl}, Ix.Ids x → ∃ l : List Plc, ps l = x
  | [], _ => ⟨[], rfl⟩
  | p :: x, h => by
    obtain ⟨l, hl⟩ := ps_of (x := x) fun q hq => h q (List.mem_cons_of_mem _ hq)
    exact ⟨⟨p.id, h p List.mem_cons_self, p.kind, p.pack, p.at_, p.len⟩ :: l, congrArg (p :: ·) hl⟩
def plC (e : Plc) : List Value := e.id.map B ++ [.int .i64 e.kind, .int .i64 e.pack, .int .i64 e.at_, .int .i64 e.len]
def plV (e : Plc) : Value := .agg (plC e).toArray
theorem plC_length (e : Plc) : (plC e).length = 12 := by rw [plC, List.length_append, List.length_map, e.hid]; rfl
theorem plC_one (e : Plc) : ∀ u ∈ plC e, u.oneCell' = true := by
  intro u hu
  rw [plC, List.mem_append] at hu
  rcases hu with hu | hu
  · obtain ⟨b, _, rfl⟩ := List.mem_map.1 hu; rfl
  · simp only [List.mem_cons, List.not_mem_nil, or_false] at hu
    rcases hu with rfl | rfl | rfl | rfl <;> rfl
theorem plC_8 (e : Plc) : (plC e)[8]? = some (.int .i64 e.kind) := by
  rw [plC, List.getElem?_append_right (by simp [e.hid]), List.length_map, e.hid]; rfl
theorem plC_9 (e : Plc) : (plC e)[9]? = some (.int .i64 e.pack) := by
  rw [plC, List.getElem?_append_right (by simp [e.hid]), List.length_map, e.hid]; rfl
theorem plC_10 (e : Plc) : (plC e)[10]? = some (.int .i64 e.at_) := by
  rw [plC, List.getElem?_append_right (by simp [e.hid]), List.length_map, e.hid]; rfl
theorem plC_11 (e : Plc) : (plC e)[11]? = some (.int .i64 e.len) := by
  rw [plC, List.getElem?_append_right (by simp [e.hid]), List.length_map, e.hid]; rfl
theorem plC_take (e : Plc) : (plC e).take 8 = e.id.map B := by
  rw [plC, List.take_append_of_le_length (by rw [List.length_map, e.hid]; omega), List.take_of_length_le (by rw [List.length_map, e.hid]; omega)]
theorem plC_id (e : Plc) (j : Nat) (hj : j < 8) : (plC e)[j]? = some (B (e.id[j]'(by rw [e.hid]; exact hj))) := by
  rw [plC, List.getElem?_append_left (by rw [List.length_map, e.hid]; exact hj), List.getElem?_map, List.getElem?_eq_getElem (by rw [e.hid]; exact hj)]; rfl
theorem plC_inj {a b : Plc} (h : plC a = plC b) : a = b := by
  have h8 := congrArg (fun l : List Value => l[8]?) h
  have h9 := congrArg (fun l : List Value => l[9]?) h
  have h10 := congrArg (fun l : List Value => l[10]?) h
  have h11 := congrArg (fun l : List Value => l[11]?) h
  have hi := congrArg (fun l : List Value => l.take 8) h
  simp only [plC_8, plC_9, plC_10, plC_11, plC_take, Option.some.injEq, Value.int.injEq, true_and] at h8 h9 h10 h11 hi
  have hid : a.id = b.id := by
    refine (List.map_inj_right fun x y hxy => ?_).1 hi
    simp only [B, Value.int.injEq, true_and] at hxy
    exact UInt8.toNat_inj.1 (by exact_mod_cast hxy)
  obtain ⟨i, hi', k, p, q, r⟩ := a
  obtain ⟨i', hi', k', p', q', r'⟩ := b
  simp only at h8 h9 h10 h11 hid
  subst h8 h9 h10 h11 hid
  rfl
abbrev Px := Rx 12 plC
/-- the place of nothing -/
def pl0 : Plc := ⟨List.replicate 8 0, rfl, 0, 0, 0, 0⟩
theorem eq_step {P : Program} {W : World} {d : Nat} {xs ys : Array Value} {f : Field} {r : List Field} {v u : Value} {a b : Bool} (n : f.name ≠ "_")
    (p : (part f.type xs f.offset).run P W = .ok v W) (q : (part f.type ys f.offset).run P W = .ok u W) (e : (Op.equalIn d f.type v u).run P W = .ok a W) (h : (Op.eqFields d xs ys r).run P W = .ok b W) :
    (Op.eqFields d xs ys (f :: r)).run P W = .ok (a && b) W := by
  cases a
  · simp only [Op.eqFields, if_pos n, Sem.run_bind, p, q, Result.andThen_ok, e, Bool.not_false, if_true, Sem.run_pure, Bool.false_and]
  · simp only [Op.eqFields, if_pos n, Sem.run_bind, p, q, Result.andThen_ok, e, Bool.not_true, Bool.false_eq_true, if_false, Bool.true_and]
    exact h
theorem eq_none {P : Program} {W : World} {d : Nat} {xs ys : Array Value} : (Op.eqFields d xs ys []).run P W = .ok true W := by
  simp only [Op.eqFields, Sem.run_pure]
theorem fields_pl : ∃ f0 f1 f2 f3 f4, (Try.prog.fieldsOf 29).toList = [f0, f1, f2, f3, f4] ∧ f0.type = 27 ∧ f0.offset = 0 ∧ f0.name ≠ "_" ∧ f1.type = 3 ∧ f1.offset = 8 ∧ f1.name ≠ "_" ∧ f2.type = 3 ∧ f2.offset = 9 ∧ f2.name ≠ "_" ∧ f3.type = 3 ∧ f3.offset = 10 ∧ f3.name ≠ "_" ∧ f4.type = 3 ∧ f4.offset = 11 ∧ f4.name ≠ "_" := by
  rw [show (Try.prog.fieldsOf 29) = _ from by unfold Program.fieldsOf; rw [Try.underlying29]]
  exact ⟨_, _, _, _, _, rfl, rfl, rfl, by decide, rfl, rfl, by decide, rfl, rfl, by decide, rfl, rfl, by decide, rfl, rfl, by decide⟩
theorem ppart_id (W : World) (e : Plc) : (part 27 (plC e).toArray 0).run Try.prog W = .ok (.agg (e.id.map B).toArray) W := by
  have h := plC_take e
  simp [part, go_sem, h]
theorem ppart_kind (W : World) (e : Plc) : (part 3 (plC e).toArray 8).run Try.prog W = .ok (.int .i64 e.kind) W := by
  have h := plC_8 e
  simp [part, go_sem, h]
theorem ppart_pack (W : World) (e : Plc) : (part 3 (plC e).toArray 9).run Try.prog W = .ok (.int .i64 e.pack) W := by
  have h := plC_9 e
  simp [part, go_sem, h]
theorem ppart_at (W : World) (e : Plc) : (part 3 (plC e).toArray 10).run Try.prog W = .ok (.int .i64 e.at_) W := by
  have h := plC_10 e
  simp [part, go_sem, h]
theorem ppart_len (W : World) (e : Plc) : (part 3 (plC e).toArray 11).run Try.prog W = .ok (.int .i64 e.len) W := by
  have h := plC_11 e
  simp [part, go_sem, h]
/-- are two places the same? -/
def plSame (a b : Plc) : Bool := (a.id == b.id) && ((a.kind == b.kind) && ((a.pack == b.pack) && ((a.at_ == b.at_) && (a.len == b.len))))
theorem plSame_iff {a b : Plc} : plSame a b = true ↔ a = b := by
  constructor
  · intro h
    simp only [plSame, Bool.and_eq_true, beq_iff_eq] at h
    refine Plc.p_inj ?_
    simp only [Plc.p, h]
  · rintro rfl
    simp [plSame]
theorem plSame_self (a : Plc) : plSame a a = true := plSame_iff.2 rfl
theorem plSame_not {a b : Plc} (h : a ≠ b) : plSame a b = false := by
  rw [← Bool.not_eq_true]
  exact fun k => h (plSame_iff.1 k)
theorem pl_cmp_at (d : Nat) (W : World) (a b : Plc) :
    (Op.equalIn (d + 2 + 1) 29 (.agg (plC a).toArray) (.agg (plC b).toArray)).run Try.prog W = .ok (plSame a b) W := by
  have hp : Try.prog.stoodInHeld 29 = false := by kernel_rfl
  have hf : Try.prog.underlying 29 = some (.struct (Try.prog.fieldsOf 29)) := by kernel_rfl
  obtain ⟨f0, f1, f2, f3, f4, hfs, t0, o0, n0, t1, o1, n1, t2, o2, n2, t3, o3, n3, t4, o4, n4⟩ := fields_pl
  have hi : ∀ i j : Int, (Op.equalIn (d + 2) 3 (.int .i64 i) (.int .i64 j)).run Try.prog W = .ok (i == j) W := fun i j => run_equalIn_int (P := Try.prog) W (d + 1) 3 .i64 .i64 i j (by kernel_rfl)
  have h0 := id_eq_at W d a.id b.id a.hid b.hid
  rw [run_equalIn_struct W (d + 2) 29 _ _ hf hp, hfs]
  have hs := eq_step (P := Try.prog) (W := W) (d := d + 2) (xs := (plC a).toArray) (ys := (plC b).toArray) n0 (by rw [t0, o0]; exact ppart_id W a) (by rw [t0, o0]; exact ppart_id W b) (by rw [t0]; exact h0)
    (eq_step n1 (by rw [t1, o1]; exact ppart_kind W a) (by rw [t1, o1]; exact ppart_kind W b) (by rw [t1]; exact hi _ _) (eq_step n2 (by rw [t2, o2]; exact ppart_pack W a) (by rw [t2, o2]; exact ppart_pack W b) (by rw [t2]; exact hi _ _)
    (eq_step n3 (by rw [t3, o3]; exact ppart_at W a) (by rw [t3, o3]; exact ppart_at W b) (by rw [t3]; exact hi _ _) (eq_step n4 (by rw [t4, o4]; exact ppart_len W a) (by rw [t4, o4]; exact ppart_len W b) (by rw [t4]; exact hi _ _) eq_none))))
  rw [Bool.and_true] at hs
  exact hs
theorem pl_cmp (W : World) (a b : Plc) : (Op.equalIn 10000 29 (.agg (plC a).toArray) (.agg (plC b).toArray)).run Try.prog W = .ok (plSame a b) W := pl_cmp_at 9997 W a b
end Go.Proofs.Ytllioidjelgafab
