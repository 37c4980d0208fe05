/-
  When two Blooms are equal; a list of Blooms as a call's arguments.
-/
import Derived.Test.YtpagbihebahnnaaBlJoin
import Derived.Laws.StructEq
import Derived.Great.BuildSlice
namespace Go.Proofs.Ytpagbihebahnnaa
open Go.RowKit

theorem range_eq_nat : ∀ (xs ys : List Nat), xs.length = ys.length → ((List.range xs.length).all fun i => xs.getD i 0 == ys.getD i 0) = (xs == ys)
  | [], [], _ => rfl
  | x :: xs, y :: ys, h => by
    have ih := range_eq_nat xs ys (by simpa using h)
    rw [List.length_cons, List.range_succ_eq_map, List.all_cons, List.all_map]
    simp only [List.getD_cons_zero, Function.comp_def, List.getD_cons_succ, ih]
    simp [List.cons_beq_cons]
  | [], _ :: _, h => by simp at h
  | _ :: _, [], h => by simp at h
theorem equalIn_words {P : Program} (w : World) (d : Nat) (t e : TypeId) (n : Nat) (ht : P.underlying t = some (.array n e)) (he : P.underlying e = some (.int .u64)) (hsz : ∀ w, (sizeOf e).run P w = .ok 1 w)
    (xs ys : List Nat) (hx : xs.length = n) (hy : ys.length = n) :
    (Op.equalIn (d + 2) t (.agg (xs.map U).toArray) (.agg (ys.map U).toArray)).run P w = .ok (xs == ys) w := by
  rw [← range_eq_nat xs ys (hx.trans hy.symm), hx, List.range_eq_range', Op.equalIn]
  simp only [Sem.run_bind, run_underlying ht, Result.andThen_ok, hsz, Std.Legacy.Range.forIn_eq_forIn_range', Std.Legacy.Range.size, Nat.sub_zero, Nat.add_sub_cancel, Nat.div_one]
  have hl : ∀ i ∈ List.range' 0 n 1, i < n := fun i hi => by simpa using (List.mem_range'_1.1 hi).2
  generalize List.range' 0 n 1 = l at hl ⊢
  induction l with
  | nil => simp
  | cons i l ih =>
    have hi : i < n := hl i (by simp)
    have px : (part e (xs.map U).toArray (i * 1)).run P w = .ok (U (xs.getD i 0)) w := by
      simp [part, isAgg, run_underlying he, List.getD, List.getElem?_eq_getElem (show i < xs.length by omega)]
    have py : (part e (ys.map U).toArray (i * 1)).run P w = .ok (U (ys.getD i 0)) w := by
      simp [part, isAgg, run_underlying he, List.getD, List.getElem?_eq_getElem (show i < ys.length by omega)]
    have pe : (Op.equalIn (d + 1) e (U (xs.getD i 0)) (U (ys.getD i 0))).run P w = .ok (xs.getD i 0 == ys.getD i 0) w := by
      rw [U, U, run_equalIn_int w d e .u64 .u64 _ _ he]
      congr 1
      rw [Bool.eq_iff_iff]
      simp
      omega
    simp only [List.forIn_cons, Sem.run_bind, px, py, pe, Result.andThen_ok, List.all_cons]
    cases hb : (xs.getD i 0 == ys.getD i 0)
    · simp
    · simp only [Bool.not_true, Bool.false_eq_true, if_false, Sem.run_pure, Result.andThen_ok, Bool.true_and]
      exact ih fun j hj => hl j (by simp [hj])
theorem blm_eq (W : World) {a b : List Nat} (ha : Bm.Ok a) (hb : Bm.Ok b) : (Op.equalIn 10000 24 (.agg (blmC a).toArray) (.agg (blmC b).toArray)).run Try.prog W = .ok (a == b) W :=
  equalIn_words (P := Try.prog) W 9998 24 22 16 (by kernel_rfl) (by kernel_rfl) (fun w => by go_simp) a b ha.len hb.len
/-- a list of Blooms in a new block -/
theorem rx_new (w : World) (t : TypeId) {bs : List (List Nat)} (hb : Bm.Oks bs) (hl : bs.length ≤ 1000) :
    Rx 16 blmC (w.alloc (.cells (rowR blmC bs).toArray t)) (.slice (some ⟨w.heap.size, 0, none⟩) bs.length bs.length) bs := by
  refine ⟨.inr ⟨w.heap.size, 0, bs.length, rfl, by simp, fun j b hj r u hu => ?_⟩, _, _, _, rfl, Nat.le_refl _, by omega⟩
  have hr : r < 16 := by
    have := (List.getElem?_eq_some_iff.1 hu).1
    rwa [blmC_length (hb b (List.mem_of_getElem? hj))] at this
  rw [Nat.zero_add, cell_of_row _ w.heap.size _ _ _ _ (heap_alloc_new w _), List.getElem?_toArray]
  -- all of one length, so that the row is where it should be
  have key : ∀ (bs : List (List Nat)) (j : Nat), Bm.Oks bs → bs[j]? = some b → (rowR blmC bs)[j * 16 + r]? = (blmC b)[r]? := by
    intro bs
    induction bs with
    | nil => intro j _ hj; simp at hj
    | cons q bs ih =>
      intro j hq hj
      have hql := blmC_length (hq q List.mem_cons_self)
      show (blmC q ++ rowR blmC bs)[j * 16 + r]? = _
      cases j with
      | zero =>
        obtain rfl : q = b := by simpa using hj
        rw [Nat.zero_mul, Nat.zero_add, List.getElem?_append_left (by rw [hql]; exact hr)]
      | succ j =>
        rw [List.getElem?_append_right (by rw [hql]; omega), hql, show (j + 1) * 16 + r - 16 = j * 16 + r from by omega]
        exact ih j (fun x hx => hq x (List.mem_cons_of_mem _ hx)) (by simpa using hj)
  rw [key bs j hb hj]
  exact hu
theorem run_blms (w : World) (bs : List (List Nat)) (hb : Bm.Oks bs) (h0 : 0 < bs.length) (hl : bs.length ≤ 1000) :
    (Instr.buildSlice 42 bs.length ((bs.map blmV).zipIdx.map fun x => (x.2, x.1)).toArray).run Try.prog w = .ok (.slice (some ⟨w.heap.size, 0, none⟩) bs.length bs.length) (w.alloc (.cells (rowR blmC bs).toArray 24)) := by
  obtain ⟨ie, hie, hz, hs⟩ : ∃ ie, Try.prog.info? 24 = some ie ∧ ie.zero = some (.agg Z16) ∧ ie.size = 16 := by
    have h : (Try.prog.info? 24).map (fun i => (i.zero, i.size)) = some (some (.agg Z16), 16) := by kernel_rfl
    cases e : Try.prog.info? 24 with
    | none => rw [e] at h; simp at h
    | some ie =>
      rw [e] at h
      simp only [Option.map_some, Option.some.injEq, Prod.mk.injEq] at h
      exact ⟨ie, rfl, h.1, h.2⟩
  have hrow : (bs.map blmV).flatMap (fun v => v.cells.toList) = rowR blmC bs := by
    rw [List.flatMap_map]
    rfl
  rw [← hrow]
  refine run_buildSlice w 42 24 bs.length _ _ ie (.agg Z16) Try.underlying42 hie hz (by rw [hs]; omega) (by rw [hs]; omega) ?_
  rw [hs]
  have := Great.fill_whole (s := 16) (by omega) (bs.map blmV) ((Array.range (bs.length * 16)).map ((Value.agg Z16).cells[· % (Value.agg Z16).cells.size]!)) (fun v hv => by
    obtain ⟨b, hb', rfl⟩ := List.mem_map.1 hv
    show (blmC b).toArray.size = 16
    rw [List.size_toArray, blmC_length (hb b hb')]) (by simp)
  exact this
end Go.Proofs.Ytpagbihebahnnaa
