/-
  Two shards compared; slices.Equal over two rows of the same shards.
-/
import Derived.Test.YtoeohnknpbdgdaaShSx
import Derived.Test.YtoeohnknpbdgdaaQuietSince
import Derived.Laws.StructEq
namespace Go.Proofs.Ytoeohnknpbdgdaa
open Go.RowKit
set_option maxRecDepth 4000

theorem fields_shd : ∃ f0 f1, (Try.prog.fieldsOf 33).toList = [f0, f1] ∧ f0.type = 4 ∧ f0.offset = 0 ∧ f0.name ≠ "_" ∧ f1.type = 9 ∧ f1.offset = 1 ∧ f1.name ≠ "_" := by
  rw [show (Try.prog.fieldsOf 33) = _ from by unfold Program.fieldsOf; rw [Try.underlying33]]
  exact ⟨_, _, rfl, rfl, rfl, by decide, rfl, rfl, by decide⟩
theorem eq_two {P : Program} (W : World) (d : Nat) (xs ys : Array Value) (f0 f1 : Field) (v0 v1 u0 u1 : Value) (b : Bool) (n0 : f0.name ≠ "_") (n1 : f1.name ≠ "_")
    (p0 : (part f0.type xs f0.offset).run P W = .ok v0 W) (p1 : (part f1.type xs f1.offset).run P W = .ok v1 W) (q0 : (part f0.type ys f0.offset).run P W = .ok u0 W) (q1 : (part f1.type ys f1.offset).run P W = .ok u1 W)
    (e0 : (Op.equalIn d f0.type v0 u0).run P W = .ok true W) (e1 : (Op.equalIn d f1.type v1 u1).run P W = .ok b W) :
    (Op.eqFields d xs ys [f0, f1]).run P W = .ok b W := by
  cases b <;> simp only [Op.eqFields, if_pos n0, if_pos n1, Sem.run_bind, p0, p1, q0, q1, Result.andThen_ok, e0, e1, Bool.not_true, Bool.not_false, Bool.false_eq_true, if_false, if_true, Sem.run_pure]
theorem shd_cmp_at (d : Nat) (W : World) (b : Bool) (s t : ByteArray) :
    (Op.equalIn (d + 1 + 1) 33 (.agg #[.bool b, .string s]) (.agg #[.bool b, .string t])).run Try.prog W = .ok (s.toList == t.toList) W := by
  have hp : Try.prog.stoodInHeld 33 = false := by kernel_rfl
  have hf : Try.prog.underlying 33 = some (.struct (Try.prog.fieldsOf 33)) := by kernel_rfl
  obtain ⟨f0, f1, hfs, t0, o0, n0, t1, o1, n1⟩ := fields_shd
  have h0 : (Op.equalIn (d + 1) 4 (.bool b) (.bool b)).run Try.prog W = .ok true W := by
    have := run_equalIn_bool (P := Try.prog) W d 4 b b (by kernel_rfl)
    rwa [beq_self_eq_true] at this
  have h1 : (Op.equalIn (d + 1) 9 (.string s) (.string t)).run Try.prog W = .ok (s.toList == t.toList) W := run_equalIn_string (P := Try.prog) W d 9 s t (by kernel_rfl)
  rw [run_equalIn_struct W (d + 1) 33 _ _ hf hp, hfs]
  exact eq_two W (d + 1) _ _ f0 f1 (.bool b) (.string s) (.bool b) (.string t) _ n0 n1 (by rw [t0, o0]; simp [part, go_sem]) (by rw [t1, o1]; simp [part, go_sem]) (by rw [t0, o0]; simp [part, go_sem]) (by rw [t1, o1]; simp [part, go_sem]) (by rw [t0]; exact h0) (by rw [t1]; exact h1)
theorem shd_cmp (W : World) (b : Bool) (s t : ByteArray) :
    (Op.equalIn 10000 33 (.agg #[.bool b, .string s]) (.agg #[.bool b, .string t])).run Try.prog W = .ok (s.toList == t.toList) W := shd_cmp_at 9998 W b s t
theorem shd_eq (W : World) (b : Bool) (s : ByteArray) :
    (Op.equalIn 10000 33 (.agg #[.bool b, .string s]) (.agg #[.bool b, .string s])).run Try.prog W = .ok true W := by
  rw [shd_cmp]; rw [beq_self_eq_true]

set_option maxHeartbeats 1000000 in
theorem equal_shds (v1 v2 : Value) (l : List Shd) (w : World) (h1 : Sx w v1 l) (h2 : Sx w v2 l) (hl : l.length ≤ 140737488351232) :
    Calls Try.prog 34 #[v1, v2] w fun e w' => e = .returned (.bool true) ∧ Below w.heap.size w w' := by
  obtain ⟨a1, c1, rfl, j1, j2⟩ := h1.slice
  obtain ⟨a2, c2, rfl, j3, j4⟩ := h2.slice
  clear j1 j2 j3 j4
  go_enter Try.func34, Try.ntmps34
  go_wp2_with fail
  go_loopw [13] (fun i wr => ∃ k : Nat, k ≤ l.length ∧ i = .int .i64 k ∧ Below w.heap.size w wr) (fun i _ => l.length - (intOf i).toNat)
  case atStart => exact ⟨0, by omega, rfl, Below.refl _ _⟩
  case round =>
    obtain ⟨k, hk, rfl, hbel⟩ := hrel
    by_cases hlt : k < l.length
    · obtain ⟨bk, o, rfl, hbk, c0, c1⟩ := (h1.below hbel).get k hlt
      obtain ⟨bk', o', rfl, hbk', d0, d1⟩ := (h2.below hbel).get k hlt
      generalize l.getD k Shd.none = t at *
      clear h1 h2
      have x0 : ∀ X : Since wr.heap.size wr, X.val.cell? ⟨bk, o + k * 2, none⟩ = some (.bool t.has) := fun X => (X.property.cell (p := ⟨bk, o + k * 2, none⟩) hbk).trans c0
      have x1 : ∀ X : Since wr.heap.size wr, X.val.cell? ⟨bk, o + k * 2 + 1, none⟩ = some (.string t.bytes) := fun X => (X.property.cell (p := ⟨bk, o + k * 2 + 1, none⟩) hbk).trans c1
      have y0 : ∀ X : Since wr.heap.size wr, X.val.cell? ⟨bk', o' + k * 2, none⟩ = some (.bool t.has) := fun X => (X.property.cell (p := ⟨bk', o' + k * 2, none⟩) hbk').trans d0
      have y1 : ∀ X : Since wr.heap.size wr, X.val.cell? ⟨bk', o' + k * 2 + 1, none⟩ = some (.string t.bytes) := fun X => (X.property.cell (p := ⟨bk', o' + k * 2 + 1, none⟩) hbk').trans d1
      clear c0 c1 d0 d1
      have heq := fun W => shd_eq W t.has t.bytes
      have hne : Nonempty (Since wr.heap.size wr) := ⟨⟨wr, Below.refl _ _⟩⟩
      go_wp2_with fail
      refine wp_region_since (B := wr.heap.size) (W0 := wr) (by kernel_rfl) (by kernel_rfl) (Below.refl _ _) ?_
      repeat (go_big_quiet_step (fail))
      refine wpQuiet_nil ?_
      rintro w7 ⟨U, rfl⟩
      have hU := U.property
      have HB3 : Hid (Below w.heap.size w U.val) := hbel.trans (hU.mono hbel.size)
      generalize U.val = w7 at *
      clear hU hbel x0 x1 y0 y1 heq hne
      go_wp2_with fail
      go_roundw
      case rel => exact ⟨k + 1, by omega, by go_num, HB3.out⟩
      case measure => simp only [intOf]; omega
    · go_wp2_with fail
      go_ret
      exact ⟨rfl, hbel⟩
end Go.Proofs.Ytoeohnknpbdgdaa
