/-
  A Bloom as it lies in memory.
-/
import Derived.Test.YtpagbihebahnnaaBlMarks
import Derived.Deep.MidRow
namespace Go.Proofs.Ytpagbihebahnnaa
open Go.RowKit

/-- the cells of a Bloom, and a Bloom as a value -/
def blmC (b : List Nat) : List Value := b.map U
def blmV (b : List Nat) : Value := .agg (blmC b).toArray
theorem blmC_length {b : List Nat} (h : Bm.Ok b) : (blmC b).length = 16 := by rw [blmC, List.length_map, h.len]
theorem blmC_get {b : List Nat} (h : Bm.Ok b) {j : Nat} (hj : j < 16) : (blmC b)[j]? = some (.int .u64 (b.getD j 0 : Nat)) := by
  rw [blmC, List.getElem?_map, List.getElem?_eq_getElem (by rw [h.len]; exact hj), List.getD_eq_getElem?_getD, List.getElem?_eq_getElem (by rw [h.len]; exact hj)]
  rfl
theorem blmC_one (b : List Nat) : ∀ v ∈ blmC b, v.oneCell' = true := by
  intro v hv
  obtain ⟨n, _, rfl⟩ := List.mem_map.1 hv
  rfl
theorem blmC_all (b : List Nat) : (blmC b).toArray.all (·.oneCell') = true := all_oneCell_toArray (blmC_one b)
theorem info_blm : (Try.prog.info? 24).map (·.size) = some 16 := by kernel_rfl
theorem info_blmC {b : List Nat} (h : Bm.Ok b) : (Try.prog.info? 24).map (·.size) = some (blmC b).length := by rw [info_blm, blmC_length h]
theorem info_blmA {b : List Nat} (h : Bm.Ok b) : (Try.prog.info? 24).map (·.size) = some (blmC b).toArray.size := by rw [info_blm, List.size_toArray, blmC_length h]
abbrev Z16 : Array Value := #[.int .u64 0, .int .u64 0, .int .u64 0, .int .u64 0, .int .u64 0, .int .u64 0, .int .u64 0, .int .u64 0, .int .u64 0, .int .u64 0, .int .u64 0, .int .u64 0, .int .u64 0, .int .u64 0, .int .u64 0, .int .u64 0]
theorem z16_none : Z16 = (blmC Bm.none_).toArray := rfl

/-- block G holds the words b, all of which may be written -/
structure Bb (W : World) (G : Nat) (b : List Nat) : Prop where
  ok : Bm.Ok b
  at_ : ∀ j, j < 16 → W.cell? ⟨G, j, none⟩ = some (.int .u64 (b.getD j 0 : Nat))
  fz : ∀ j, j < 16 → W.frozen? ⟨G, j, none⟩ = false
  lt : G < W.heap.size
theorem Bb.below {W W' : World} {G B : Nat} {b : List Nat} (h : Bb W G b) (hb : Below B W W') (hg : G < B) : Bb W' G b :=
  ⟨h.ok, fun j hj => (hb.cell (p := ⟨G, j, none⟩) hg).trans (h.at_ j hj), fun j hj => (hb.frozen (p := ⟨G, j, none⟩) hg).trans (h.fz j hj), Nat.lt_of_lt_of_le h.lt hb.size⟩
theorem Bb.past {W W' : World} {G : Nat} {b : List Nat} (h : Bb W G b) (hb : Below W.heap.size W W') : Bb W' G b := h.below hb h.lt
theorem Bb.alloc {W : World} {G : Nat} {b : List Nat} (h : Bb W G b) (o : Obj) : Bb (W.alloc o) G b := h.past ((Below.refl _ W).alloc (Nat.le_refl _) o)
theorem Bb.drew {W : World} {G : Nat} {b : List Nat} (h : Bb W G b) : Bb W.drew G b := h.past (Below.refl _ W).drew
theorem Bb.new {b : List Nat} (h : Bm.Ok b) (w : World) (t : TypeId) : Bb (w.alloc (.cells (blmC b).toArray t)) w.heap.size b := by
  refine ⟨h, fun j hj => ?_, fun j _ => by simp, by simp⟩
  rw [cell_of_row _ w.heap.size j _ _ _ (heap_alloc_new w _)]
  rw [List.getElem?_toArray]
  exact blmC_get h hj
theorem Bb.zero (w : World) (t : TypeId) : Bb (w.alloc (.cells Z16 t)) w.heap.size Bm.none_ := by
  rw [z16_none]; exact Bb.new Bm.none_ok w t
theorem Bb.rng {W : World} {G : Nat} {b : List Nat} (h : Bb W G b) : W.rangeAt G 0 (blmC b) := fun j v hv => by
  have hj : j < 16 := by
    have := (List.getElem?_eq_some_iff.1 hv).1
    rwa [blmC_length h.ok] at this
  rw [Nat.zero_add, h.at_ j hj, ← hv, blmC_get h.ok hj]
theorem Bb.there {W : World} {G : Nat} {b : List Nat} (h : Bb W G b) : W.there G 0 16 := fun j hj => by
  rw [Nat.zero_add]
  exact ⟨by rw [h.at_ j hj]; rfl, h.fz j hj⟩
theorem Bb.thereA {W : World} {G : Nat} {b c : List Nat} (h : Bb W G b) (hc : Bm.Ok c) : W.there G 0 (blmC c).toArray.size := by
  rw [List.size_toArray, blmC_length hc]; exact h.there
/-- one word written -/
theorem Bb.set {W : World} {G : Nat} {b : List Nat} (h : Bb W G b) {k n : Nat} (hk : k < 16) (hn : n < 18446744073709551616) : Bb (W.setCell ⟨G, k, none⟩ (.int .u64 (n : Int))) G (b.set k n) := by
  refine ⟨⟨by rw [List.length_set]; exact h.ok.len, fun x hx => ?_⟩, fun j hj => ?_, fun j hj => by simpa using h.fz j hj, by simpa using h.lt⟩
  · rcases List.mem_or_eq_of_mem_set hx with e | e
    · exact h.ok.lt x e
    · rw [e]; exact hn
  by_cases e : j = k
  · subst e
    rw [World.cell?_setCell_same _ _ _ (h.at_ j hj), List.getD_eq_getElem?_getD, List.getElem?_set_self (by rw [h.ok.len]; exact hj)]
    rfl
  · rw [World.cell?_setCell_other _ _ _ _ (by intro q; exact e (congrArg Addr.off q).symm), h.at_ j hj, List.getD_eq_getElem?_getD, List.getD_eq_getElem?_getD, List.getElem?_set_ne (by omega)]
theorem Bb.setOther {W : World} {G : Nat} {b : List Nat} (h : Bb W G b) {a : Addr} (ha : a.block ≠ G) (v : Value) : Bb (W.setCell a v) G b :=
  ⟨h.ok, fun j hj => by rw [World.cell?_setCell_other _ _ _ _ (by intro q; exact ha (congrArg Addr.block q))]; exact h.at_ j hj, fun j hj => by simpa using h.fz j hj, by simpa using h.lt⟩
theorem size_setCells (G : Nat) : ∀ (vs : List Value) (o : Nat) (W : World), (W.setCells G o vs).heap.size = W.heap.size
  | [], _, _ => rfl
  | v :: r, o, W => by rw [World.setCells, size_setCells G r]; simp
theorem below_setCells' {B : Nat} {w : World} (G : Nat) (hg : B ≤ G) : ∀ (vs : List Value) (o : Nat) (W : World), Below B w W → Below B w (W.setCells G o vs)
  | [], _, _, h => h
  | v :: r, o, W, h => by rw [World.setCells]; exact below_setCells' G hg r (o + 1) _ (h.setCell hg v)
/-- all words written -/
theorem Bb.store {W : World} {G : Nat} {b c : List Nat} (h : Bb W G b) (hc : Bm.Ok c) : Bb (W.setCells G 0 (blmC c)) G c := by
  have hr := World.rangeAt_setCells_same W G 0 (blmC c) (by rw [blmC_length hc]; exact h.there)
  refine ⟨hc, fun j hj => ?_, fun j hj => by rw [World.frozen?_setCells]; exact h.fz j hj, by rw [size_setCells]; exact h.lt⟩
  have := hr j _ (blmC_get hc hj)
  rwa [Nat.zero_add] at this
theorem Bb.storeOther {W : World} {G G' : Nat} {b : List Nat} (h : Bb W G b) (hg : G ≠ G') (vs : List Value) : Bb (W.setCells G' 0 vs) G b := by
  refine ⟨h.ok, fun j hj => ?_, fun j hj => by rw [World.frozen?_setCells]; exact h.fz j hj, by rw [size_setCells]; exact h.lt⟩
  have := (World.rangeAt_setCells_apart h.rng G' 0 vs (.inl hg)) j _ (blmC_get h.ok hj)
  rwa [Nat.zero_add] at this
/-- a Bloom laid in a new block -/
theorem laid_blm {b : List Nat} (hb : Bm.Ok b) (W : World) (t : TypeId) : ∃ W3, (W.alloc (.cells Z16 t)).setCells W.heap.size 0 (blmC b) = W3 ∧ Bb W3 W.heap.size b ∧ Below W.heap.size W W3 :=
  ⟨_, rfl, (Bb.zero W t).store hb, below_setCells' W.heap.size (Nat.le_refl _) _ _ _ ((Below.refl _ W).alloc (Nat.le_refl _) _)⟩
/-- a word of four, and of sixteen -/
theorem run_ix4 (l : List Nat) (k : Nat) (w : World) (hl : l.length = 4) (hk : k < 4) :
    (Instr.index 39 (.agg (l.map U).toArray) (.int .i64 k)).run Try.prog w = .ok (.int .u64 (l.getD k 0 : Nat)) w := by
  have h : Try.prog.underlying 39 = some (.array 4 22) := by kernel_rfl
  rw [List.getD_eq_getElem?_getD, List.getElem?_eq_getElem (by omega)]
  simp [Instr.index, run_underlying h, asIntOf, hk, hl, go_sem, U]
theorem run_ix16 (b : List Nat) (k : Nat) (w : World) (hb : Bm.Ok b) (hk : k < 16) :
    (Instr.index 24 (.agg (blmC b).toArray) (.int .i64 k)).run Try.prog w = .ok (.int .u64 (b.getD k 0 : Nat)) w := by
  have h : Try.prog.underlying 24 = some (.array 16 22) := by kernel_rfl
  have hl := hb.len
  rw [List.getD_eq_getElem?_getD, List.getElem?_eq_getElem (by omega)]
  simp [Instr.index, run_underlying h, asIntOf, hk, hl, go_sem, U, blmC]
end Go.Proofs.Ytpagbihebahnnaa
