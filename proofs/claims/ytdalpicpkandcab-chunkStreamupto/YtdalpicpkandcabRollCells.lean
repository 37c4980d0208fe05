/-
  A Roll as it lies in memory, and what stays of it when a cell is written.
-/
import Derived.Test.YtdalpicpkandcabRollOf
import Derived.Deep.MidRow
import Derived.Lib.LazyBuf
namespace Go.Proofs.Ytdalpicpkandcab
open Go.RowKit

/-- the cells of a Roll -/
def rollCells (l : List UInt8) (i : Int) (o : Nat) : List Value := l.map B ++ [.int .i64 i, .int .u32 o]
theorem rollCells_length {l : List UInt8} (h : l.length = 16) (i : Int) (o : Nat) : (rollCells l i o).length = 18 := by
  rw [rollCells, List.length_append, List.length_map, h]; rfl
theorem rollCells_lo {l : List UInt8} (h : l.length = 16) (i : Int) (o : Nat) {k : Nat} (hk : k < 16) : (rollCells l i o)[k]? = some (B (l.getD k 0)) := by
  rw [rollCells, List.getElem?_append_left (by simpa [h] using hk), List.getElem?_map, List.getElem?_eq_getElem (by omega), List.getD_eq_getElem?_getD, List.getElem?_eq_getElem (by omega)]
  rfl
theorem rollCells_16 {l : List UInt8} (h : l.length = 16) (i : Int) (o : Nat) : (rollCells l i o)[16]? = some (.int .i64 i) := by
  rw [rollCells, List.getElem?_append_right (by simp [h]), List.length_map, h]; rfl
theorem rollCells_17 {l : List UInt8} (h : l.length = 16) (i : Int) (o : Nat) : (rollCells l i o)[17]? = some (.int .u32 o) := by
  rw [rollCells, List.getElem?_append_right (by simp [h]), List.length_map, h]; rfl
theorem rollCells_one (l : List UInt8) (i : Int) (o : Nat) : (rollCells l i o).toArray.all (·.oneCell') = true := by
  apply all_oneCell_toArray
  intro v hv
  rw [rollCells, List.mem_append] at hv
  rcases hv with hv | hv
  · obtain ⟨b, _, rfl⟩ := List.mem_map.1 hv; rfl
  · simp only [List.mem_cons, List.not_mem_nil, or_false] at hv
    rcases hv with rfl | rfl <;> rfl

/-- block G holds a Roll, all of it may be written, and 18 cells of the block behind it too; below block B the world is as w was -/
structure RS (A G : Nat) (w W : World) (l : List UInt8) (i : Int) (o : Nat) : Prop where
  len : l.length = 16
  rng : W.rangeAt G 0 (rollCells l i o)
  fz : ∀ j, j < 18 → W.frozen? ⟨G, j, none⟩ = false
  res : W.there (G + 1) 0 18
  bel : Below A w W
  low : A ≤ G

theorem RS.lo {A G : Nat} {w W : World} {l : List UInt8} {i : Int} {o : Nat} (h : RS A G w W l i o) {k : Nat} (hk : k < 16) : W.cell? ⟨G, k, none⟩ = some (.int .u8 ((l.getD k 0).toNat : Int)) := by
  have := h.rng k _ (rollCells_lo h.len i o hk)
  simpa [B] using this
theorem RS.c16 {A G : Nat} {w W : World} {l : List UInt8} {i : Int} {o : Nat} (h : RS A G w W l i o) : W.cell? ⟨G, 16, none⟩ = some (.int .i64 i) := by
  have := h.rng 16 _ (rollCells_16 h.len i o)
  simpa using this
theorem RS.c17 {A G : Nat} {w W : World} {l : List UInt8} {i : Int} {o : Nat} (h : RS A G w W l i o) : W.cell? ⟨G, 17, none⟩ = some (.int .u32 o) := by
  have := h.rng 17 _ (rollCells_17 h.len i o)
  simpa using this
theorem RS.drew {A G : Nat} {w W : World} {l : List UInt8} {i : Int} {o : Nat} (h : RS A G w W l i o) : RS A G w W.drew l i o :=
  ⟨h.len, fun j v hv => by simpa using h.rng j v hv, fun j hj => by simpa using h.fz j hj, fun j hj => by simpa using h.res j hj, h.bel.drew, h.low⟩
/-- one cell written -/
theorem RS.write {A G : Nat} {w W : World} {l l' : List UInt8} {i i' : Int} {o o' k : Nat} {v : Value} (h : RS A G w W l i o) (hk : k < 18) (hl : l'.length = 16) (hv : (rollCells l' i' o')[k]? = some v)
    (hn : ∀ j, j ≠ k → (rollCells l' i' o')[j]? = (rollCells l i o)[j]?) : RS A G w (W.setCell ⟨G, k, none⟩ v) l' i' o' := by
  have hx : ∃ u, (rollCells l i o)[k]? = some u := ⟨_, List.getElem?_eq_getElem (by rw [rollCells_length h.len]; exact hk)⟩
  obtain ⟨u, hu⟩ := hx
  have hc : W.cell? ⟨G, k, none⟩ = some u := by simpa using h.rng k u hu
  refine ⟨hl, ?_, ?_, ?_, h.bel.setCell h.low _, h.low⟩
  · intro j x hj
    rw [Nat.zero_add]
    by_cases e : j = k
    · subst e
      rw [World.cell?_setCell_same _ _ _ hc, ← hv, hj]
    · rw [World.cell?_setCell_other _ _ _ _ (by intro q; exact e (congrArg Addr.off q).symm)]
      rw [hn j e] at hj
      simpa using h.rng j x hj
  · intro j hj
    simpa using h.fz j hj
  · intro j hj
    rw [World.cell?_setCell_other _ _ _ _ (by intro q; have := congrArg Addr.block q; simp at this)]
    simpa using h.res j hj
theorem RS.sum {A G : Nat} {w W : World} {l : List UInt8} {i : Int} {o : Nat} (h : RS A G w W l i o) (o' : Nat) : RS A G w (W.setCell ⟨G, 17, none⟩ (.int .u32 (o' : Int))) l i o' := by
  refine h.write (by omega) h.len (rollCells_17 h.len i o') fun j hj => ?_
  rcases Nat.lt_or_ge j 16 with h1 | h1
  · rw [rollCells_lo h.len i o h1, rollCells_lo h.len i o' h1]
  · rcases Nat.lt_or_ge j 17 with h2 | h2
    · rw [show j = 16 from by omega, rollCells_16 h.len, rollCells_16 h.len]
    · rw [List.getElem?_eq_none (by rw [rollCells_length h.len]; omega), List.getElem?_eq_none (by rw [rollCells_length h.len]; omega)]
theorem RS.place {A G : Nat} {w W : World} {l : List UInt8} {i : Int} {o : Nat} (h : RS A G w W l i o) (i' : Int) : RS A G w (W.setCell ⟨G, 16, none⟩ (.int .i64 i')) l i' o := by
  refine h.write (by omega) h.len (rollCells_16 h.len i' o) fun j hj => ?_
  rcases Nat.lt_or_ge j 16 with h1 | h1
  · rw [rollCells_lo h.len i o h1, rollCells_lo h.len i' o h1]
  · rcases Nat.lt_or_ge j 18 with h2 | h2
    · rw [show j = 17 from by omega, rollCells_17 h.len, rollCells_17 h.len]
    · rw [List.getElem?_eq_none (by rw [rollCells_length h.len]; omega), List.getElem?_eq_none (by rw [rollCells_length h.len]; omega)]
theorem RS.byte {A G : Nat} {w W : World} {l : List UInt8} {i : Int} {o : Nat} (h : RS A G w W l i o) {k : Nat} (hk : k < 16) (b : UInt8) : RS A G w (W.setCell ⟨G, k, none⟩ (.int .u8 (b.toNat : Int))) (l.set k b) i o := by
  have hl : (l.set k b).length = 16 := by rw [List.length_set]; exact h.len
  refine h.write (by omega) hl (by rw [rollCells_lo hl i o hk, List.getD_eq_getElem?_getD, List.getElem?_set_self (by rw [h.len]; exact hk)]; rfl) fun j hj => ?_
  rcases Nat.lt_or_ge j 16 with h1 | h1
  · rw [rollCells_lo hl i o h1, rollCells_lo h.len i o h1, List.getD_eq_getElem?_getD, List.getD_eq_getElem?_getD, List.getElem?_set_ne (by omega)]
  · rcases Nat.lt_or_ge j 17 with h2 | h2
    · rw [show j = 16 from by omega, rollCells_16 h.len, rollCells_16 hl]
    · rcases Nat.lt_or_ge j 18 with h3 | h3
      · rw [show j = 17 from by omega, rollCells_17 h.len, rollCells_17 hl]
      · rw [List.getElem?_eq_none (by rw [rollCells_length hl]; omega), List.getElem?_eq_none (by rw [rollCells_length h.len]; omega)]

theorem info_roll : (Try.prog.info? 66).map (·.size) = some 18 := by kernel_rfl
theorem RS.load {A G : Nat} {w W : World} {l : List UInt8} {i : Int} {o : Nat} (h : RS A G w W l i o) :
    (Instr.loadAt 66 (.pointer (some ⟨G, 0, none⟩))).run Try.prog W = .ok (.agg (rollCells l i o).toArray) W :=
  run_loadAt_mid W G 0 66 (rollCells l i o) _ h.rng Try.underlying66 rfl (by rw [info_roll, rollCells_length h.len])
/-- the Roll copied into the block behind it -/
theorem RS.done {A G : Nat} {w W : World} {l : List UInt8} {i : Int} {o : Nat} (h : RS A G w W l i o) : ∃ W2,
    (Instr.storeAt 66 (.pointer (some ⟨G + 1, 0, none⟩)) (.agg (rollCells l i o).toArray)).run Try.prog W = .ok () W2 ∧
    (loadVar 66 ⟨G + 1, 0, none⟩).run Try.prog W2 = .ok (.agg (rollCells l i o).toArray) W2 ∧ Below A w W2 := by
  have hlen := rollCells_length h.len i o
  have hs := run_storeAt_mid (P := Try.prog) W (G + 1) 0 66 (rollCells l i o).toArray (by simpa [hlen] using h.res) (by rw [info_roll]; simp [hlen]) (rollCells_one l i o)
  refine ⟨_, hs, ?_, below_setCells (by have := h.low; omega) _ _ _ h.bel⟩
  exact run_loadVar_mid _ (G + 1) 0 66 (rollCells l i o) _ (World.rangeAt_setCells_same W (G + 1) 0 _ (by simpa [hlen] using h.res)) Try.underlying66 rfl (by rw [info_roll, hlen])

theorem RS.done2 {A G : Nat} {w W : World} {l : List UInt8} {i : Int} {o : Nat} (h : RS A G w W l i o) : (loadVar 66 ⟨G + 1, 0, none⟩).run Try.prog (W.setCells (G + 1) 0 (rollCells l i o)) = .ok (.agg (rollCells l i o).toArray) (W.setCells (G + 1) 0 (rollCells l i o)) := by
  have hlen := rollCells_length h.len i o
  exact run_loadVar_mid _ (G + 1) 0 66 (rollCells l i o) _ (World.rangeAt_setCells_same W (G + 1) 0 _ (by simpa [hlen] using h.res)) Try.underlying66 rfl (by rw [info_roll, hlen])
/-- all that the last step wants, the cells a variable -/
theorem RS.fin {A G : Nat} {w W : World} {l : List UInt8} {i : Int} {o : Nat} (h : RS A G w W l i o) : ∃ cs W2, Hid (rollCells l i o = cs) ∧ cs.length = 18 ∧ W.rangeAt G 0 cs ∧ W.there (G + 1) 0 cs.toArray.size ∧
    (Try.prog.info? 66).map (·.size) = some cs.toArray.size ∧ cs.toArray.all (·.oneCell') = true ∧ W.setCells (G + 1) 0 cs = W2 ∧ Below A w W2 ∧ (loadVar 66 ⟨G + 1, 0, none⟩).run Try.prog W2 = .ok (.agg cs.toArray) W2 := by
  have hlen := rollCells_length h.len i o
  refine ⟨rollCells l i o, _, rfl, hlen, h.rng, ?_, ?_, rollCells_one l i o, rfl, below_setCells (by have := h.low; omega) _ _ _ h.bel, h.done2⟩
  · simpa [hlen] using h.res
  · rw [info_roll]; simp [hlen]
abbrev Z18 : Array Value := #[.int .u8 0, .int .u8 0, .int .u8 0, .int .u8 0, .int .u8 0, .int .u8 0, .int .u8 0, .int .u8 0, .int .u8 0, .int .u8 0, .int .u8 0, .int .u8 0, .int .u8 0, .int .u8 0, .int .u8 0, .int .u8 0, .int .i64 0, .int .u32 0]
theorem z18_cell (w : World) (t : TypeId) (j : Nat) (hj : j < 18) : ((w.alloc (.cells Z18 t)).cell? ⟨w.heap.size, j, none⟩).isSome = true := by
  rw [cell_of_row _ w.heap.size j _ _ _ (heap_alloc_new w _), Array.getElem?_eq_getElem (show j < Z18.size from hj)]
  rfl
theorem RS.start (l : List UInt8) (i : Int) (o : Nat) (w : World) (hl : l.length = 16) : RS w.heap.size w.heap.size w ((w.alloc (.cells (rollCells l i o).toArray 66)).alloc (.cells Z18 66)) l i o := by
  have hsz : (w.alloc (.cells (rollCells l i o).toArray 66)).heap.size = w.heap.size + 1 := by simp
  refine ⟨hl, ?_, ?_, ?_, ((Below.refl _ w).alloc (Nat.le_refl _) _).alloc (by simp) _, Nat.le_refl _⟩
  · intro j v hv
    rw [Nat.zero_add]
    have h1 : (w.alloc (.cells (rollCells l i o).toArray 66)).cell? ⟨w.heap.size, j, none⟩ = some v := by
      rw [cell_of_row _ w.heap.size j _ _ _ (heap_alloc_new w _)]
      simpa using hv
    simpa using h1
  · intro j hj
    simp
  · intro j hj
    have h1 := z18_cell (w.alloc (.cells (rollCells l i o).toArray 66)) 66 j hj
    rw [hsz] at h1
    rw [Nat.zero_add]
    exact ⟨h1, by simp⟩
end Go.Proofs.Ytdalpicpkandcab
