/-
  A book of codes as it lies in memory; what find of package press answers.
-/
import Derived.Test.YtgdkfaphbbdnbaaPrTake
namespace Go.Proofs.Ytgdkfaphbbdnbaa
open Go.RowKit
set_option maxRecDepth 4000

/-- the cells of a book: for each number of bits the first code and the signs -/
def bookC (f : Nat → Nat) (V : Nat → Value) : List Value := (List.range 49).flatMap fun n => [.int .i64 (f n), V n]
theorem flat_two (a b : Nat → Value) (N : Nat) : ((List.range N).flatMap fun n => [a n, b n]).length = 2 * N ∧ ∀ i, i < 2 * N → ((List.range N).flatMap fun n => [a n, b n])[i]? = some (if i % 2 = 0 then a (i / 2) else b (i / 2)) := by
  induction N with
  | zero => exact ⟨rfl, fun i h => by omega⟩
  | succ N ih =>
    obtain ⟨h1, h2⟩ := ih
    rw [List.range_succ, List.flatMap_append]
    refine ⟨by rw [List.length_append, h1]; simp; omega, fun i hi => ?_⟩
    by_cases h : i < 2 * N
    · rw [List.getElem?_append_left (by rw [h1]; exact h), h2 i h]
    · rw [List.getElem?_append_right (by rw [h1]; omega), h1]
      by_cases e : i = 2 * N
      · subst e
        rw [Nat.sub_self, if_pos (by omega), show 2 * N / 2 = N by omega]
        rfl
      · obtain rfl : i = 2 * N + 1 := by omega
        rw [show 2 * N + 1 - 2 * N = 1 by omega, if_neg (by omega), show (2 * N + 1) / 2 = N by omega]
        rfl
theorem bookC_length (f : Nat → Nat) (V : Nat → Value) : (bookC f V).length = 98 := (flat_two _ _ 49).1
theorem bookC_get (f : Nat → Nat) (V : Nat → Value) (i : Nat) (h : i < 98) : (bookC f V)[i]? = some (if i % 2 = 0 then .int .i64 (f (i / 2)) else V (i / 2)) := (flat_two _ _ 49).2 i h
theorem bookC_first (f : Nat → Nat) (V : Nat → Value) (n : Nat) (h : n ≤ 48) : (bookC f V)[n * 2]? = some (.int .i64 (f n)) := by
  rw [bookC_get _ _ _ (by omega), if_pos (by omega), show n * 2 / 2 = n by omega]
theorem bookC_signs (f : Nat → Nat) (V : Nat → Value) (n : Nat) (h : n ≤ 48) : (bookC f V)[n * 2 + 1]? = some (V n) := by
  rw [bookC_get _ _ _ (by omega), if_neg (by omega), show (n * 2 + 1) / 2 = n by omega]
theorem bookC_set0 (f : Nat → Nat) (V : Nat → Value) (n x : Nat) : (bookC f V).set (n * 2) (.int .i64 x) = bookC (fun m => if m = n then x else f m) V := by
  refine List.ext_getElem? fun i => ?_
  by_cases h : i < 98
  · rw [List.getElem?_set, bookC_length, bookC_get _ _ _ h, bookC_get _ _ _ h]
    by_cases e : n * 2 = i
    · rw [if_pos e, if_pos (by omega), if_pos (by omega), if_pos (by omega)]
    · rw [if_neg e]
      by_cases e2 : i % 2 = 0
      · rw [if_pos e2, if_pos e2, if_neg (by omega)]
      · rw [if_neg e2, if_neg e2]
  · rw [List.getElem?_eq_none (by rw [List.length_set, bookC_length]; omega), List.getElem?_eq_none (by rw [bookC_length]; omega)]
theorem bookC_set1 (f : Nat → Nat) (V : Nat → Value) (n : Nat) (v : Value) : (bookC f V).set (n * 2 + 1) v = bookC f (fun m => if m = n then v else V m) := by
  refine List.ext_getElem? fun i => ?_
  by_cases h : i < 98
  · rw [List.getElem?_set, bookC_length, bookC_get _ _ _ h, bookC_get _ _ _ h]
    by_cases e : n * 2 + 1 = i
    · rw [if_pos e, if_pos (by omega), if_neg (by omega), if_pos (by omega)]
    · rw [if_neg e]
      by_cases e2 : i % 2 = 0
      · rw [if_pos e2, if_pos e2]
      · rw [if_neg e2, if_neg e2, if_neg (by omega)]
  · rw [List.getElem?_eq_none (by rw [List.length_set, bookC_length]; omega), List.getElem?_eq_none (by rw [bookC_length]; omega)]
theorem bookC_congr {f g : Nat → Nat} {V U : Nat → Value} (h1 : ∀ n, n ≤ 48 → f n = g n) (h2 : ∀ n, n ≤ 48 → V n = U n) : bookC f V = bookC g U := by
  refine List.ext_getElem? fun i => ?_
  by_cases h : i < 98
  · rw [bookC_get _ _ _ h, bookC_get _ _ _ h, h1 _ (by omega), h2 _ (by omega)]
  · rw [List.getElem?_eq_none (by rw [bookC_length]; omega), List.getElem?_eq_none (by rw [bookC_length]; omega)]
/-- a book as it lies in memory: what stands first and the signs, for each number of bits -/
structure BookF (W : World) (base G : Nat) (f : Nat → Nat) (S : Nat → List Nat) (V : Nat → Value) : Prop where
  box : W.heap[G]? = some (.cells (bookC f V).toArray 112 (0, 0))
  old : base ≤ G
  row : ∀ n, n ≤ 48 → W.ownsRow base 5 1 (V n) (S n).length ((Pr.upB (S n)).map B)
  apart : ∀ n m, n ≤ 48 → m ≤ 48 → n ≠ m → ∀ g, (V n).ownBlock = some g → (V m).ownBlock ≠ some g
/-- a book of the codes of lengths l, the signs below k put in -/
abbrev Book (W : World) (base G : Nat) (l : List Nat) (k : Nat) (V : Nat → Value) : Prop := BookF W base G (fun n => Pr.fst l n k) (fun n => Pr.shelf l n k) V
theorem Book.below {W W' : World} {base G : Nat} {l : List Nat} {k : Nat} {V : Nat → Value} (h : Book W base G l k V) (hb : Below W.heap.size W W') : Book W' base G l k V :=
  ⟨(hb.block _ (Array.getElem?_eq_some_iff.1 h.box).1).trans h.box, h.old, fun n hn => row_below (h.row n hn) hb, h.apart⟩
theorem Book.kept {q : Nat → Prop} {W W' : World} {base G : Nat} {l : List Nat} {k : Nat} {V : Nat → Value} (h : Book W base G l k V) (hk : Kept q W W') (hG : q G) (hV : ∀ n, n ≤ 48 → ∀ g, (V n).ownBlock = some g → q g) : Book W' base G l k V :=
  ⟨hk.obj hG h.box, h.old, fun n hn => own_kept (h.row n hn) hk (hV n hn), h.apart⟩
theorem Book.lt {W : World} {base G : Nat} {l : List Nat} {k : Nat} {V : Nat → Value} (h : Book W base G l k V) : G < W.heap.size := (Array.getElem?_eq_some_iff.1 h.box).1
theorem Book.cells {W : World} {base G : Nat} {l : List Nat} {k : Nat} {V : Nat → Value} (h : Book W base G l k V) (n : Nat) (hn : n ≤ 48) :
    W.cell? ⟨G, n * 2, none⟩ = some (.int .i64 (Pr.fst l n k : Nat)) ∧ W.cell? ⟨G, n * 2 + 1, none⟩ = some (V n) ∧ W.frozen? ⟨G, n * 2, none⟩ = false ∧ W.frozen? ⟨G, n * 2 + 1, none⟩ = false := by
  obtain ⟨a1, a2⟩ := row_cells h.box (n * 2) (by rw [bookC_length]; omega)
  obtain ⟨b1, b2⟩ := row_cells h.box (n * 2 + 1) (by rw [bookC_length]; omega)
  exact ⟨a1.trans (bookC_first _ _ n hn), b1.trans (bookC_signs _ _ n hn), a2, b2⟩
theorem upB_length (l : List Nat) : (Pr.upB l).length = l.length := by simp [Pr.upB]
theorem Book.slice {W : World} {base G : Nat} {l : List Nat} {k : Nat} {V : Nat → Value} (h : Book W base G l k V) (n : Nat) (hn : n ≤ 48) : ∃ a c, V n = .slice a (Pr.shelf l n k).length c ∧ (0 < (Pr.shelf l n k).length → ∃ g, a = some ⟨g, 0, none⟩ ∧ g < W.heap.size ∧ (V n).ownBlock = some g) := by
  rcases (h.row n hn).2 with ⟨e, h0⟩ | ⟨g, cap, cur, e, _, hh, _⟩
  · exact ⟨none, 0, by rw [e, h0], fun h => by omega⟩
  · exact ⟨_, _, e, fun _ => ⟨g, rfl, (Array.getElem?_eq_some_iff.1 hh).1, by rw [e]; rfl⟩⟩
theorem Book.sign {W : World} {base G : Nat} {l : List Nat} {k : Nat} {V : Nat → Value} (h : Book W base G l k V) {n : Nat} (hn : n ≤ 48) {g : Nat} (hg : (V n).ownBlock = some g) {t i : Nat} (ht : (Pr.shelf l n k)[t]? = some i) (hi : i < 256) : W.cell? ⟨g, t, none⟩ = some (.int .u8 i) := by
  have hr := h.row n hn
  rcases hr.2 with ⟨e, h0⟩ | ⟨g', cap, cur, e, _⟩
  · rw [e] at hg
    simp [Value.ownBlock] at hg
  · rw [e] at hg
    obtain rfl : g' = g := by simpa [Value.ownBlock] using hg
    rw [e] at hr
    have hlt := (List.getElem?_eq_some_iff.1 ht).1
    have := hr.cellAt t (by omega)
    rw [this]
    simp only [Pr.upB, List.getElem?_map, ht, Option.map_some, B]
    rw [UInt8.toNat_ofNat', Nat.mod_eq_of_lt hi]

set_option maxHeartbeats 1000000 in
theorem find_any (base G : Nat) (l : List Nat) (V : Nat → Value) (n c : Nat) (w : World) (h : Book w base G l l.length V) (g : Pr.Good l) (hl : l.length ≤ 256) (h0 : 0 < n) (hn : n ≤ 48) (hc : c ≤ 281474976710656) :
    Calls Try.prog 93 #[.pointer (some ⟨G, 0, none⟩), .int .i64 c, .int .i64 n] w fun e w' => e = .returned (.tuple #[.int .u8 ((Pr.fnd l n c).getD 0 : Nat), .bool (Pr.fnd l n c).isSome]) ∧ Below w.heap.size w w' := by
  have hf := Pr.fst_le g hn l.length
  obtain ⟨c0, c1, _, _⟩ := h.cells n hn
  obtain ⟨a, cap, hV, hg⟩ := h.slice n hn
  rw [hV] at c1
  have HF := Pr.fnd_first l n c
  have HS : Hid (∀ t i, (Pr.shelf l n l.length)[t]? = some i → i < 256) := fun t i ht => by have := (Pr.shelf_code h0 (Nat.le_refl _) ht).1; omega
  have hsl := Pr.shelf_len l n l.length
  by_cases hlt : c < Pr.fst l n l.length
  · rw [if_neg (by omega)] at HF
    rw [HF]
    generalize Pr.fst l n l.length = F at *
    clear HF hg hV h
    go_enter Try.func93, Try.ntmps93
    go_wp2_with fail
    go_ret2
    exact ⟨rfl, (Below.refl _ w).alloc (Nat.le_refl _) _⟩
  rw [if_pos (by omega)] at HF
  obtain ⟨t, ht⟩ : ∃ t, c = Pr.fst l n l.length + t := ⟨c - Pr.fst l n l.length, by omega⟩
  rw [show c - Pr.fst l n l.length = t by omega] at HF
  by_cases hlen : t < (Pr.shelf l n l.length).length
  · obtain ⟨g', rfl, hg', hob⟩ := hg (by omega)
    rw [List.getElem?_eq_getElem hlen] at HF
    have hsg := h.sign hn hob (List.getElem?_eq_getElem hlen) (HS.out t _ (List.getElem?_eq_getElem hlen))
    generalize (Pr.shelf l n l.length)[t] = i at *
    rw [HF]
    have hct : (c : Int) - (Pr.fst l n l.length : Nat) = (t : Int) := by omega
    generalize (Pr.shelf l n l.length).length = sl at *
    generalize Pr.fst l n l.length = F at *
    have hgn : g' ≠ w.heap.size := by omega
    clear HF hV h ht hlt HS hg hob
    go_enter Try.func93, Try.ntmps93
    go_wp2_with fail
    go_ret2
    exact ⟨rfl, (Below.refl _ w).alloc (Nat.le_refl _) _⟩
  · rw [List.getElem?_eq_none (by omega)] at HF
    rw [HF]
    have hct : (c : Int) - (Pr.fst l n l.length : Nat) = (t : Int) := by omega
    generalize (Pr.shelf l n l.length).length = sl at *
    generalize Pr.fst l n l.length = F at *
    clear HF hV h ht hlt HS hg
    go_enter Try.func93, Try.ntmps93
    go_wp2_with fail
    go_ret2
    exact ⟨rfl, (Below.refl _ w).alloc (Nat.le_refl _) _⟩
end Go.Proofs.Ytgdkfaphbbdnbaa
