/-
  When two Blooms are equal; a list of Blooms as a call's arguments.
-/
import Derived.Test.YtpagbihebahnnaaBlJoin
import Derived.Laws.StructEq
import Derived.ChangeKeysEq
import Derived.Great.BuildSlice
namespace Go.Proofs.Ytpagbihebahnnaa
open Go.RowKit

theorem words_same {a b : List Nat} (ha : Bm.Ok a) (hb : Bm.Ok b) : ((List.range 16).all fun i => a.getD i 0 == b.getD i 0) = (a == b) := by
  rw [Bool.eq_iff_iff, List.all_eq_true, beq_iff_eq]
  constructor
  · intro h
    refine List.ext_getElem (ha.len.trans hb.len.symm) fun i h1 h2 => ?_
    have := h i (List.mem_range.2 (by rw [ha.len] at h1; exact h1))
    rw [beq_iff_eq, List.getD_eq_getElem?_getD, List.getD_eq_getElem?_getD, List.getElem?_eq_getElem h1, List.getElem?_eq_getElem h2] at this
    exact this
  · rintro rfl i _
    exact beq_self_eq_true _
theorem part_word (W : World) {a : List Nat} (ha : Bm.Ok a) {i : Nat} (hi : i < 16) : (part 22 (blmC a).toArray (i * 1)).run Try.prog W = .ok (.int .u64 (a.getD i 0 : Nat)) W := by
  have hg : (blmC a).toArray[i]? = some (.int .u64 (a.getD i 0 : Nat)) := by rw [List.getElem?_toArray]; exact blmC_get ha hi
  simp [part, isAgg, run_underlying Try.underlying22, hg]
theorem items_words (W : World) {a b : List Nat} (ha : Bm.Ok a) (hb : Bm.Ok b) : ∀ is : List Nat, (∀ i ∈ is, i < 16) →
    (Op.eqItems 9999 22 1 (blmC a).toArray (blmC b).toArray is).run Try.prog W = .ok (is.all fun i => a.getD i 0 == b.getD i 0) W
  | [], _ => rfl
  | i :: is, h => by
    have hi := h i List.mem_cons_self
    have hr := items_words W ha hb is fun j hj => h j (List.mem_cons_of_mem _ hj)
    have he : (Op.equalIn 9999 22 (.int .u64 (a.getD i 0 : Nat)) (.int .u64 (b.getD i 0 : Nat))).run Try.prog W = .ok (a.getD i 0 == b.getD i 0) W := by
      rw [run_equalIn_int W 9998 22 .u64 .u64 _ _ Try.underlying22]
      congr 1
      rw [Bool.eq_iff_iff, beq_iff_eq, beq_iff_eq]
      omega
    simp only [Op.eqItems, Sem.run_bind, part_word W ha hi, part_word W hb hi, he, Result.andThen_ok, List.all_cons]
    cases a.getD i 0 == b.getD i 0 with
    | false => rfl
    | true => rw [if_neg (by simp), hr]; rfl
theorem blm_eq (W : World) {a b : List Nat} (ha : Bm.Ok a) (hb : Bm.Ok b) : (Op.equalIn 10000 24 (.agg (blmC a).toArray) (.agg (blmC b).toArray)).run Try.prog W = .ok (a == b) W := by
  obtain ⟨ie, hie⟩ : ∃ ie, Try.prog.info? 22 = some ie := by
    have h : (Try.prog.info? 22).isSome = true := by kernel_rfl
    exact Option.isSome_iff_exists.1 h
  have hc : Try.prog.cellsOf 22 = 1 := by kernel_rfl
  rw [run_equalIn_array W 9999 (blmC a).toArray (blmC b).toArray (show Try.prog.underlying 24 = some (.array 16 22) from by kernel_rfl) hie, hc, items_words W ha hb _ fun i hi => List.mem_range.1 hi, words_same ha hb]
/-- a list of Blooms in a new block -/
theorem rx_new (w : World) (t : TypeId) {bs : List (List Nat)} (hb : Bm.Oks bs) (hl : bs.length ≤ 1000) :
    Rx 16 blmC (w.alloc (.cells (rowR blmC bs).toArray t)) (.slice (some ⟨w.heap.size, 0, none⟩) bs.length bs.length) bs := by
  refine ⟨.inr ⟨w.heap.size, 0, bs.length, rfl, by simp, fun j b hj r u hu => ?_⟩, _, _, _, rfl, Nat.le_refl _, by omega⟩
  have hr : r < 16 := by
    have := (List.getElem?_eq_some_iff.1 hu).1
    rwa [blmC_length (hb b (List.mem_of_getElem? hj))] at this
  rw [Nat.zero_add, cell_of_row _ w.heap.size _ _ _ _ (heap_alloc_new w _), List.getElem?_toArray]
  -- all of one length, so that the row is where it should be
  have key : ∀ (bs : List (List Nat)) (j : Nat), Bm.Oks bs → bs[j]? = some b → (rowR blmC bs)[j * 16 + r]? = (blmC b)[r]? := by
    intro bs
    induction bs with
    | nil => intro j _ hj; simp at hj
    | cons q bs ih =>
      intro j hq hj
      have hql := blmC_length (hq q List.mem_cons_self)
      show (blmC q ++ rowR blmC bs)[j * 16 + r]? = _
      cases j with
      | zero =>
        obtain rfl : q = b := by simpa using hj
        rw [Nat.zero_mul, Nat.zero_add, List.getElem?_append_left (by rw [hql]; exact hr)]
      | succ j =>
        rw [List.getElem?_append_right (by rw [hql]; omega), hql, show (j + 1) * 16 + r - 16 = j * 16 + r from by omega]
        exact ih j (fun x hx => hq x (List.mem_cons_of_mem _ hx)) (by simpa using hj)
  rw [key bs j hb hj]
  exact hu
theorem run_blms (w : World) (bs : List (List Nat)) (hb : Bm.Oks bs) (h0 : 0 < bs.length) (hl : bs.length ≤ 1000) :
    (Instr.buildSlice 42 bs.length ((bs.map blmV).zipIdx.map fun x => (x.2, x.1)).toArray).run Try.prog w = .ok (.slice (some ⟨w.heap.size, 0, none⟩) bs.length bs.length) (w.alloc (.cells (rowR blmC bs).toArray 24)) := by
  obtain ⟨ie, hie, hz, hs⟩ : ∃ ie, Try.prog.info? 24 = some ie ∧ ie.zero = some (.agg Z16) ∧ ie.size = 16 := by
    have h : (Try.prog.info? 24).map (fun i => (i.zero, i.size)) = some (some (.agg Z16), 16) := by kernel_rfl
    cases e : Try.prog.info? 24 with
    | none => rw [e] at h; simp at h
    | some ie =>
      rw [e] at h
      simp only [Option.map_some, Option.some.injEq, Prod.mk.injEq] at h
      exact ⟨ie, rfl, h.1, h.2⟩
  have hrow : (bs.map blmV).flatMap (fun v => v.cells.toList) = rowR blmC bs := by
    rw [List.flatMap_map]
    rfl
  rw [← hrow]
  refine run_buildSlice w 42 24 bs.length _ _ ie (.agg Z16) Try.underlying42 hie hz (by rw [hs]; omega) (by rw [hs]; omega) ?_
  rw [hs]
  have := Great.fill_whole (s := 16) (by omega) (bs.map blmV) ((Array.range (bs.length * 16)).map ((Value.agg Z16).cells[· % (Value.agg Z16).cells.size]!)) (fun v hv => by
    obtain ⟨b, hb', rfl⟩ := List.mem_map.1 hv
    show (blmC b).toArray.size = 16
    rw [List.size_toArray, blmC_length (hb b hb')]) (by simp)
  exact this
end Go.Proofs.Ytpagbihebahnnaa
