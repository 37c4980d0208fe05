/-
  What DateRead of package lumref answers.
-/
import Derived.Test.YtlglkfnihjfnoaaDoorCvRef
import Derived.Test.YtlglkfnihjfnoaaDoorCvReads
import Derived.Test.YtlglkfnihjfnoaaDoorCvSplit
import Derived.Test.YtlglkfnihjfnoaaDoorShelfSpl
import Derived.Deep.Cut
import Derived.Lib.SplitLaws
namespace Go.Proofs.YtlglkfnihjfnoaaDoor
open Go.RowKit

/-- the package variable that strings.Split looks at: whatever it holds -/
def Ml (w : World) : Prop := ∃ m : Int, w.cell? ⟨1, 0, none⟩ = some (.int .i64 m)

theorem Ml.below {w W : World} (h : Ml w) (hb : Below w.heap.size w W) : Ml W := by
  obtain ⟨m, hm⟩ := h
  exact ⟨m, (Below.cell hb (p := ⟨1, 0, none⟩) (World.block_lt_of_cell? w _ hm)).trans hm⟩

/-- a text's pieces between dashes -/
def pcs (s : ByteArray) : List ByteArray := Lib.splitB ⟨#[45]⟩ 0 (Lib.countB s ⟨#[45]⟩) s
theorem pcs_data (s : ByteArray) : (pcs s).map (·.data.toList) = Lib.split s.data.toList [45] := by
  unfold pcs
  rw [Lib.splitB_data]
  rfl
theorem pcs_length (s : ByteArray) : (pcs s).length = Lib.countB s ⟨#[45]⟩ + 1 := Lib.splitB_all _ (by decide) 0 _ s rfl

/-- DateRead at work: the pieces, the three numbers -/
structure RD (w W : World) (L : List ByteArray) (v : Nat → Nat) : Prop where
  ps : ∀ j (h : j < L.length), W.cell? ⟨w.heap.size, j, none⟩ = some (.string L[j])
  ns : ∀ j, j < 3 → W.cell? ⟨w.heap.size + 1, j, none⟩ = some (.int .i64 (v j))
  fz : ∀ j, j < 3 → W.frozen? ⟨w.heap.size + 1, j, none⟩ = false
  bel : Below w.heap.size w W
  lt : w.heap.size + 1 < W.heap.size

theorem RD.past {w W W' : World} {L : List ByteArray} {v : Nat → Nat} (h : RD w W L v) (hb : Below W.heap.size W W') : RD w W' L v := by
  have hl := h.lt
  exact ⟨fun j hj => (hb.cell (p := ⟨w.heap.size, j, none⟩) (by show w.heap.size < _; omega)).trans (h.ps j hj), fun j hj => (hb.cell (p := ⟨w.heap.size + 1, j, none⟩) hl).trans (h.ns j hj),
    fun j hj => (hb.frozen (p := ⟨w.heap.size + 1, j, none⟩) hl).trans (h.fz j hj), h.bel.trans (hb.mono (by have := h.bel.size; omega)), by have := hb.size; omega⟩

theorem RD.set {w W : World} {L : List ByteArray} {v u : Nat → Nat} (h : RD w W L v) {i x : Nat} (hi : i < 3) (hu : u i = x) (ho : ∀ j, j ≠ i → u j = v j) : RD w (W.setCell ⟨w.heap.size + 1, i, none⟩ (.int .i64 (x : Int))) L u := by
  have hl := h.lt
  refine ⟨fun j hj => ?_, fun j hj => ?_, fun j hj => by simpa using h.fz j hj, h.bel.setCell (by show w.heap.size ≤ w.heap.size + 1; omega) _, by simpa using hl⟩
  · rw [World.cell?_setCell_other _ _ _ _ (by intro q; have := congrArg Addr.block q; simp at this)]
    exact h.ps j hj
  · by_cases e : j = i
    · subst e
      rw [World.cell?_setCell_same _ _ _ (h.ns j hj), hu]
    · rw [World.cell?_setCell_other _ _ _ _ (by intro q; exact e (congrArg Addr.off q).symm), ho j e]
      exact h.ns j hj

/-- the numbers while part i is read, k signs of it -/
def vI (L : List ByteArray) (i k j : Nat) : Nat := if j < i then Cv.num (L.getD j ⟨#[]⟩).data.toList else if j = i then Cv.num ((L.getD j ⟨#[]⟩).data.toList.take k) else 0
theorem vI_at (L : List ByteArray) (i k : Nat) : vI L i k i = Cv.num ((L.getD i ⟨#[]⟩).data.toList.take k) := by unfold vI; simp
theorem vI_off (L : List ByteArray) (i k l : Nat) {j : Nat} (h : j ≠ i) : vI L i k j = vI L i l j := by unfold vI; rw [if_neg h, if_neg h]
theorem vI_next (L : List ByteArray) (i : Nat) {k : Nat} (hk : (L.getD i ⟨#[]⟩).data.toList.length ≤ k) : vI L i k = vI L (i + 1) 0 := by
  funext j
  unfold vI
  by_cases h : j < i
  · rw [if_pos h, if_pos (by omega)]
  · by_cases e : j = i
    · subst e
      rw [if_neg h, if_pos rfl, if_pos (by omega), List.take_of_length_le hk]
    · rw [if_neg h, if_neg e, if_neg (by omega)]
      by_cases e2 : j = i + 1
      · rw [if_pos e2]; rfl
      · rw [if_neg e2]

theorem form_pcs {s A B C : ByteArray} (h : s.size = 10) (hp : pcs s = [A, B, C]) (hA : A.size = 4) (hB : B.size = 2) :
    Cv.form s.data.toList = true ↔ ∀ P ∈ pcs s, ∀ c ∈ P.data.toList, Cv.isDig c = true := by
  have hd := pcs_data s
  rw [hp] at hd ⊢
  rw [Cv.form_split]
  constructor
  · rintro ⟨_, a, b, c, he, _, _, h1, h2, h3⟩ P hP x hx
    rw [← hd] at he
    simp only [List.map_cons, List.map_nil, List.cons.injEq, and_true] at he
    obtain ⟨rfl, rfl, rfl⟩ := he
    simp only [List.mem_cons, List.not_mem_nil, or_false] at hP
    rcases hP with rfl | rfl | rfl
    · exact h1 x hx
    · exact h2 x hx
    · exact h3 x hx
  · intro hall
    refine ⟨by rw [← Lib.size_eq]; exact h, _, _, _, hd.symm, by rw [← Lib.size_eq]; exact hA, by rw [← Lib.size_eq]; exact hB, ?_, ?_, ?_⟩
    · exact hall A (by simp)
    · exact hall B (by simp)
    · exact hall C (by simp)

theorem form_not {s : ByteArray} (h : ¬ (s.size = 10 ∧ ∃ A B C, pcs s = [A, B, C] ∧ A.size = 4 ∧ B.size = 2)) : Cv.form s.data.toList = false := by
  have : ¬ Cv.form s.data.toList = true := by
    intro hf
    rw [Cv.form_split] at hf
    obtain ⟨h1, a, b, c, he, h2, h3, _⟩ := hf
    rw [← pcs_data] at he
    refine h ⟨by rw [Lib.size_eq]; exact h1, ?_⟩
    match hp : pcs s with
    | [] => rw [hp] at he; simp at he
    | [_] => rw [hp] at he; simp at he
    | [_, _] => rw [hp] at he; simp at he
    | [A, B, C] =>
      rw [hp] at he
      simp only [List.map_cons, List.map_nil, List.cons.injEq, and_true] at he
      obtain ⟨rfl, rfl, rfl⟩ := he
      exact ⟨A, B, C, rfl, by rw [Lib.size_eq]; exact h2, by rw [Lib.size_eq]; exact h3⟩
    | _ :: _ :: _ :: _ :: _ => rw [hp] at he; simp at he
  simpa using this

theorem pcs_size {s A B C : ByteArray} (hp : pcs s = [A, B, C]) : A.size + B.size + C.size + 2 = s.size := by
  have hd := pcs_data s
  rw [hp] at hd
  have hg := Cv.glue_split 45 (Lib.count s.data.toList [45]) s.data.toList
  have : Lib.splitK [45] 0 (Lib.count s.data.toList [45]) s.data.toList = [A.data.toList, B.data.toList, C.data.toList] := hd.symm
  rw [this] at hg
  have hl := congrArg List.length hg
  simp only [Cv.glue, List.length_append, List.length_cons, ← Lib.size_eq] at hl
  omega

theorem read_pcs {s A B C : ByteArray} (hp : pcs s = [A, B, C]) (h : Cv.form s.data.toList = true) : readV s.data.toList = daysV (Cv.num A.data.toList) (Cv.num B.data.toList) (Cv.num C.data.toList) := by
  have hd := pcs_data s
  rw [hp] at hd
  unfold readV daysV
  rw [Cv.read_split h hd.symm]

end Go.Proofs.YtlglkfnihjfnoaaDoor
