/-
  What isKind, ID and alike of package pack answer, and what the document's answer (package lumref) says of them.
  What alike of package pack answers, and BlobID of the document's answer (package lumref).
  Blobs, and a row of a pack's list, handed in and read as data: opened, and shut.
  A map whose keys are IDs: what is there, what is not.
  Codes (no Go in it): HUFFMAN: heaps that are made one, always two of the least weight, have the least total.
  Codes (no Go in it): the lengths that heaps made one have: their total, their Kraft sum, their order, their bound.
  Codes (no Go in it): heaps of signs that are made one, and the lengths that signs get by it.
  Heaps of signs kept in a list as a binary tree (no program in it): putting one in, taking the least out.
  Codes (no Go in it): KRAFT, McMILLAN: lengths whose sum is no more than a whole have codes, none the beginning of another.
  Codes (no Go in it): codes given out length by length are those of the sums over all that come ahead.
-/
import Derived.Test.YtkhejelmjkpgfaaG0
import Derived.Test.YtkhejelmjkpgfaaG1
import Derived.Laws.StructEq
import Derived.OpenShut
import Derived.DataShut
import Derived.WideShapes
import Derived.Deep.Strs
import Derived.Lib.SmallJoins
import Derived.Deep.Slices
import Derived.SizedLaws
import Derived.WideKeyArr2
import Derived.DeepKeys4
import Derived.Maps.OwnSet
import Derived.WalkKit

namespace Go.Proofs.Ytkhejelmjkpgfaa
open Go.RowKit
set_option maxRecDepth 4000

def kB (k : Int) : Bool := decide (k = 1 ∨ k = 2 ∨ k = 3)
theorem kB_of {k : Int} : kB k = true ↔ Pk.kOK k := by simp [kB, Pk.kOK]

theorem isKind_any (k : Int) (w : World) :
    Calls Try.prog 23 #[.int .i64 k] w fun e w' => e = .returned (.bool (kB k)) ∧ w' = w := by
  by_cases h1 : k = 1
  · subst h1
    go_enter Try.func23, Try.ntmps23
    go_wp2_with fail
    go_ret
    exact ⟨rfl, rfl⟩
  by_cases h2 : k = 2
  · subst h2
    go_enter Try.func23, Try.ntmps23
    go_wp2_with fail
    go_ret
    exact ⟨rfl, rfl⟩
  by_cases h3 : k = 3
  · subst h3
    go_enter Try.func23, Try.ntmps23
    go_wp2_with fail
    go_ret
    exact ⟨rfl, rfl⟩
  have HE : Hid (kB k = false) := decide_eq_false fun h => by omega
  have e1 : (k == 1) = false := beq_eq_false_iff_ne.2 h1
  have e2 : (k == 2) = false := beq_eq_false_iff_ne.2 h2
  have e3 : (k == 3) = false := beq_eq_false_iff_ne.2 h3
  go_enter Try.func23, Try.ntmps23
  go_wp2_with fail
  go_ret
  exact ⟨by rw [HE.out]; rfl, rfl⟩

theorem rkind_any (k : Int) (w : World) :
    Calls Try.prog 25 #[.int .i64 k] w fun e w' => e = .returned (.bool (kB k)) ∧ w' = w := by
  by_cases h1 : k = 1
  · subst h1
    go_enter Try.func25, Try.ntmps25
    go_wp2_with fail
    go_ret
    exact ⟨rfl, rfl⟩
  by_cases h2 : k = 2
  · subst h2
    go_enter Try.func25, Try.ntmps25
    go_wp2_with fail
    go_ret
    exact ⟨rfl, rfl⟩
  by_cases h3 : k = 3
  · subst h3
    go_enter Try.func25, Try.ntmps25
    go_wp2_with fail
    go_ret
    exact ⟨rfl, rfl⟩
  have HE : Hid (kB k = false) := decide_eq_false fun h => by omega
  have e1 : (k == 1) = false := beq_eq_false_iff_ne.2 h1
  have e2 : (k == 2) = false := beq_eq_false_iff_ne.2 h2
  have e3 : (k == 3) = false := beq_eq_false_iff_ne.2 h3
  go_enter Try.func25, Try.ntmps25
  go_wp2_with fail
  go_ret
  exact ⟨by rw [HE.out]; rfl, rfl⟩

/-- what ID hands back -/
def idOr (b : Blb) : List UInt8 := if Pk.bErr b.p = 0 then Pk.bid b.p else List.replicate 8 0
theorem idOr_length (b : Blb) : (idOr b).length = 8 := by
  unfold idOr; split
  · exact Pk.bid_length _
  · simp
abbrev Z8 : Array Value := #[.int .u8 0, .int .u8 0, .int .u8 0, .int .u8 0, .int .u8 0, .int .u8 0, .int .u8 0, .int .u8 0]
theorem id8_cell (w : World) (t : TypeId) (j : Nat) (hj : j < 8) : (w.alloc (.cells Z8 t)).cell? ⟨w.heap.size, j, none⟩ = some (.int .u8 0) := by
  rw [cell_of_row _ w.heap.size j _ _ _ (heap_alloc_new w _)]
  match j, hj with
  | 0, _ => rfl
  | 1, _ => rfl
  | 2, _ => rfl
  | 3, _ => rfl
  | 4, _ => rfl
  | 5, _ => rfl
  | 6, _ => rfl
  | 7, _ => rfl
theorem id8_free (w : World) (t : TypeId) (j : Nat) : (w.alloc (.cells Z8 t)).frozen? ⟨w.heap.size, j, none⟩ = false := by
  simp
/-- eight cells, all of which may be written -/
structure I8 (W : World) (G : Nat) (x : List UInt8) : Prop where
  len : x.length = 8
  at_ : ∀ j, j < 8 → W.cell? ⟨G, j, none⟩ = some (.int .u8 ((x.getD j 0).toNat : Int))
  fz : ∀ j, j < 8 → W.frozen? ⟨G, j, none⟩ = false
  lt : G < W.heap.size
theorem I8.below {W W' : World} {G B : Nat} {x : List UInt8} (h : I8 W G x) (hb : Below B W W') (hg : G < B) : I8 W' G x :=
  ⟨h.len, fun j hj => (hb.cell (p := ⟨G, j, none⟩) hg).trans (h.at_ j hj), fun j hj => (hb.frozen (p := ⟨G, j, none⟩) hg).trans (h.fz j hj), Nat.lt_of_lt_of_le h.lt hb.size⟩
theorem I8.new (w : World) (t : TypeId) : I8 (w.alloc (.cells Z8 t)) w.heap.size (List.replicate 8 0) :=
  ⟨by simp, fun j hj => by rw [id8_cell w t j hj]; rw [List.getD_eq_getElem?_getD, List.getElem?_replicate, if_pos hj]; rfl, fun j _ => id8_free w t j, by simp⟩

theorem I8.cells {W : World} {G : Nat} {b0 b1 b2 b3 b4 b5 b6 b7 : UInt8} (h : I8 W G [b0, b1, b2, b3, b4, b5, b6, b7]) :
    W.cell? ⟨G, 0, none⟩ = some (.int .u8 (b0.toNat : Int)) ∧ W.cell? ⟨G, 1, none⟩ = some (.int .u8 (b1.toNat : Int)) ∧ W.cell? ⟨G, 2, none⟩ = some (.int .u8 (b2.toNat : Int)) ∧ W.cell? ⟨G, 3, none⟩ = some (.int .u8 (b3.toNat : Int)) ∧
    W.cell? ⟨G, 4, none⟩ = some (.int .u8 (b4.toNat : Int)) ∧ W.cell? ⟨G, 5, none⟩ = some (.int .u8 (b5.toNat : Int)) ∧ W.cell? ⟨G, 6, none⟩ = some (.int .u8 (b6.toNat : Int)) ∧ W.cell? ⟨G, 7, none⟩ = some (.int .u8 (b7.toNat : Int)) :=
  ⟨h.at_ 0 (by omega), h.at_ 1 (by omega), h.at_ 2 (by omega), h.at_ 3 (by omega), h.at_ 4 (by omega), h.at_ 5 (by omega), h.at_ 6 (by omega), h.at_ 7 (by omega)⟩
theorem I8.free {W : World} {G : Nat} {x : List UInt8} (h : I8 W G x) :
    W.frozen? ⟨G, 0, none⟩ = false ∧ W.frozen? ⟨G, 1, none⟩ = false ∧ W.frozen? ⟨G, 2, none⟩ = false ∧ W.frozen? ⟨G, 3, none⟩ = false ∧ W.frozen? ⟨G, 4, none⟩ = false ∧ W.frozen? ⟨G, 5, none⟩ = false ∧ W.frozen? ⟨G, 6, none⟩ = false ∧ W.frozen? ⟨G, 7, none⟩ = false :=
  ⟨h.fz 0 (by omega), h.fz 1 (by omega), h.fz 2 (by omega), h.fz 3 (by omega), h.fz 4 (by omega), h.fz 5 (by omega), h.fz 6 (by omega), h.fz 7 (by omega)⟩
/-- eight cells written -/
def set8 (W : World) (G : Nat) (b0 b1 b2 b3 b4 b5 b6 b7 : UInt8) : World :=
  (((((((W.setCell ⟨G, 0, none⟩ (B b0)).setCell ⟨G, 1, none⟩ (B b1)).setCell ⟨G, 2, none⟩ (B b2)).setCell ⟨G, 3, none⟩ (B b3)).setCell ⟨G, 4, none⟩ (B b4)).setCell ⟨G, 5, none⟩ (B b5)).setCell ⟨G, 6, none⟩ (B b6)).setCell ⟨G, 7, none⟩ (B b7)
theorem I8.set1 {W : World} {G : Nat} {x : List UInt8} (h : I8 W G x) (k : Nat) (hk : k < 8) (b : UInt8) : I8 (W.setCell ⟨G, k, none⟩ (B b)) G (x.set k b) := by
  refine ⟨by rw [List.length_set]; exact h.len, fun j hj => ?_, fun j hj => by simpa using h.fz j hj, by simpa using h.lt⟩
  by_cases e : j = k
  · subst e
    rw [World.cell?_setCell_same _ _ _ (h.at_ j hj), List.getD_eq_getElem?_getD, List.getElem?_set_self (by rw [h.len]; exact hj)]
    rfl
  · rw [World.cell?_setCell_other _ _ _ _ (by intro q; exact e (congrArg Addr.off q).symm), h.at_ j hj, List.getD_eq_getElem?_getD, List.getD_eq_getElem?_getD, List.getElem?_set_ne (by omega)]
theorem I8.store {W : World} {G : Nat} {x : List UInt8} (h : I8 W G x) (b0 b1 b2 b3 b4 b5 b6 b7 : UInt8) : I8 (set8 W G b0 b1 b2 b3 b4 b5 b6 b7) G [b0, b1, b2, b3, b4, b5, b6, b7] := by
  have := (((((((h.set1 0 (by omega) b0).set1 1 (by omega) b1).set1 2 (by omega) b2).set1 3 (by omega) b3).set1 4 (by omega) b4).set1 5 (by omega) b5).set1 6 (by omega) b6).set1 7 (by omega) b7
  obtain ⟨c0, c1, c2, c3, c4, c5, c6, c7, rfl⟩ := eight x h.len
  exact this
theorem below_set8 {B' : Nat} {w W : World} {G : Nat} (h : Below B' w W) (hg : B' ≤ G) (b0 b1 b2 b3 b4 b5 b6 b7 : UInt8) : Below B' w (set8 W G b0 b1 b2 b3 b4 b5 b6 b7) :=
  (((((((h.setCell hg _).setCell hg _).setCell hg _).setCell hg _).setCell hg _).setCell hg _).setCell hg _).setCell hg _

set_option maxHeartbeats 1000000 in
theorem pid_of (b0 b1 b2 b3 b4 b5 b6 b7 : UInt8) (k : Nat) (s : ByteArray) (w : World) (hk : kB (k : Int) = true) (hk3 : k ≤ 3) (hs : s.size ≤ 4096)
    (hn : ∀ W, Calls Try.prog 24 #[.string ⟨(UInt8.ofNat k :: s.data.toList).toArray⟩] W fun e w' => e = .returned (.agg #[B b0, B b1, B b2, B b3, B b4, B b5, B b6, B b7]) ∧ Below W.heap.size W w') :
    Calls Try.prog 9 #[.agg #[.int .i64 k, .string s]] w fun e w' => e = .returned (.tuple #[.agg #[B b0, B b1, B b2, B b3, B b4, B b5, B b6, B b7], .int .i64 0]) ∧ Below w.heap.size w w' := by
  obtain ⟨i0, hi, hz0, hz1, hz2⟩ := info_parts info_u8
  simp only [B] at hn
  have hisk := fun W => isKind_any (k : Int) W
  rw [hk] at hisk
  clear hk
  obtain ⟨W2, hW2⟩ : ∃ W2, W2 = (w.alloc (.cells #[.int .i64 k, .string s] 24)).alloc (.cells Z8 26) := ⟨_, rfl⟩
  have hsz : W2.heap.size = w.heap.size + 2 := by rw [hW2]; simp
  have hX : I8 W2 (w.heap.size + 1) (List.replicate 8 0) := by
    rw [hW2]
    have := I8.new (w.alloc (.cells #[.int .i64 k, .string s] 24)) 26
    rwa [World.size_alloc] at this
  have hB2 : Below w.heap.size w W2 := by rw [hW2]; exact ((Below.refl _ w).alloc (Nat.le_refl _) _).alloc (by simp) _
  have c0 : W2.cell? ⟨w.heap.size, 0, none⟩ = some (.int .i64 k) := by rw [hW2]; simp
  have c1 : W2.cell? ⟨w.heap.size, 1, none⟩ = some (.string s) := by rw [hW2]; simp
  have hone := owns_one W2 (k : Int) (by omega) (by omega)
  rw [Int.toNat_natCast, hsz] at hone
  dsimp only [Z8] at hW2
  go_enter Try.func9, Try.ntmps9
  go_wp2_with fail
  rw [← hW2]
  clear hW2
  refine (hisk _).mono ?_
  rintro e u ⟨rfl, hu⟩
  obtain rfl := hu.symm
  clear hu hisk
  go_wp2_with (at_builtin; refine Lib.wpList_append_own_string _ rfl (.tmp 17) (.tmp 19) 51 9 rfl (w.heap.size + 2) 5 i0 Try.underlying51 Try.underlying9 hi hz0 hz1 hz2 _ _ _ rfl hone s rfl ?c3 ?c4 ?c5 ?_)
  case c3 => unfold maxLen; simp only [List.length_cons, List.length_nil]; omega
  case c4 => simp only [List.length_cons, List.length_nil]; omega
  case c5 => simp; omega
  intro v1 w1 hown1 hgrow _
  have hb1 : Below (w.heap.size + 2) W2 w1 := (((Below.refl _ W2).alloc (by omega) _)).grown hgrow (by simp; omega) fun j hj => (hone.lt j hj).1
  have hrow : w1.ownsRow (w.heap.size + 2) 5 1 v1 (UInt8.ofNat k :: s.data.toList).length ((UInt8.ofNat k :: s.data.toList).map B) := by
    have e : (UInt8.ofNat k :: s.data.toList).length = 1 + s.size := by rw [Lib.size_eq]; simp only [List.length_cons]; omega
    rw [e]
    exact hown1
  have hstr := run_str hrow
  have hX1 := hX.below hb1 (by omega)
  have HB1 : Hid (Below w.heap.size w w1) := hB2.trans (hb1.mono (by omega))
  obtain ⟨a1, q1, rfl⟩ := own_form hown1
  clear hown1 hgrow hone hrow hX hb1 hB2 c0 c1
  go_wp2_with fail
  refine (hn _).mono ?_
  rintro e w2 ⟨rfl, hb2⟩
  have hX2 := hX1.below hb2 hX1.lt
  obtain ⟨e0, e1, e2, e3, e4, e5, e6, e7⟩ := I8.cells (b0 := 0) (b1 := 0) (b2 := 0) (b3 := 0) (b4 := 0) (b5 := 0) (b6 := 0) (b7 := 0) hX2
  obtain ⟨f0, f1, f2, f3, f4, f5, f6, f7⟩ := hX2.free
  have HB2 : Hid (Below w.heap.size w (set8 w2 (w.heap.size + 1) b0 b1 b2 b3 b4 b5 b6 b7)) := below_set8 (HB1.out.trans (hb2.mono HB1.out.size)) (by omega) _ _ _ _ _ _ _ _
  clear hX1 hX2 hb2 hn hstr HB1
  go_wp2_with fail
  refine bodyPost_ret (v := .tuple #[.agg #[B b0, B b1, B b2, B b3, B b4, B b5, B b6, B b7], .int .i64 0]) ?_ rfl ⟨rfl, HB2.out⟩
  have hres : Try.f9.results = #[.cell 2 26, .tmp 3] := by kernel_rfl
  simp only [results, hres]
  go_simp
  exact ⟨rfl, rfl, rfl, rfl, rfl, rfl, rfl, rfl⟩

set_option maxHeartbeats 1000000 in
theorem pid_kind (k : Int) (s : ByteArray) (w : World) (hk : kB k = false) :
    Calls Try.prog 9 #[.agg #[.int .i64 k, .string s]] w fun e w' => e = .returned (.tuple #[.agg ((List.replicate 8 0).map B).toArray, .int .i64 5]) ∧ Below w.heap.size w w' := by
  have hisk := fun W => isKind_any k W
  rw [hk] at hisk
  clear hk
  obtain ⟨W2, hW2⟩ : ∃ W2, W2 = (w.alloc (.cells #[.int .i64 k, .string s] 24)).alloc (.cells Z8 26) := ⟨_, rfl⟩
  have hX : I8 W2 (w.heap.size + 1) (List.replicate 8 0) := by
    rw [hW2]
    have := I8.new (w.alloc (.cells #[.int .i64 k, .string s] 24)) 26
    rwa [World.size_alloc] at this
  have hB2 : Below w.heap.size w W2 := by rw [hW2]; exact ((Below.refl _ w).alloc (Nat.le_refl _) _).alloc (by simp) _
  have c0 : W2.cell? ⟨w.heap.size, 0, none⟩ = some (.int .i64 k) := by rw [hW2]; simp
  have c1 : W2.cell? ⟨w.heap.size, 1, none⟩ = some (.string s) := by rw [hW2]; simp
  dsimp only [Z8] at hW2
  obtain ⟨e0, e1, e2, e3, e4, e5, e6, e7⟩ := I8.cells (b0 := 0) (b1 := 0) (b2 := 0) (b3 := 0) (b4 := 0) (b5 := 0) (b6 := 0) (b7 := 0) hX
  obtain ⟨f0, f1, f2, f3, f4, f5, f6, f7⟩ := hX.free
  have HB2 : Hid (Below w.heap.size w (set8 W2 (w.heap.size + 1) 0 0 0 0 0 0 0 0)) := below_set8 hB2 (by omega) _ _ _ _ _ _ _ _
  clear hX hB2
  go_enter Try.func9, Try.ntmps9
  go_wp2_with fail
  rw [← hW2]
  clear hW2
  refine (hisk _).mono ?_
  rintro e u ⟨rfl, hu⟩
  obtain rfl := hu.symm
  clear hu hisk
  go_wp2_with fail
  refine bodyPost_ret (v := .tuple #[.agg #[B 0, B 0, B 0, B 0, B 0, B 0, B 0, B 0], .int .i64 5]) ?_ rfl ⟨rfl, HB2.out⟩
  have hres : Try.f9.results = #[.cell 2 26, .tmp 3] := by kernel_rfl
  simp only [results, hres]
  go_simp
  rfl

set_option maxHeartbeats 1000000 in
theorem pid_large (k : Int) (s : ByteArray) (w : World) (hk : kB k = true) (hs : 4096 < s.size) (hs2 : s.size ≤ 9223372036854775807) :
    Calls Try.prog 9 #[.agg #[.int .i64 k, .string s]] w fun e w' => e = .returned (.tuple #[.agg ((List.replicate 8 0).map B).toArray, .int .i64 2]) ∧ Below w.heap.size w w' := by
  have hisk := fun W => isKind_any k W
  rw [hk] at hisk
  clear hk
  obtain ⟨W2, hW2⟩ : ∃ W2, W2 = (w.alloc (.cells #[.int .i64 k, .string s] 24)).alloc (.cells Z8 26) := ⟨_, rfl⟩
  have hX : I8 W2 (w.heap.size + 1) (List.replicate 8 0) := by
    rw [hW2]
    have := I8.new (w.alloc (.cells #[.int .i64 k, .string s] 24)) 26
    rwa [World.size_alloc] at this
  have hB2 : Below w.heap.size w W2 := by rw [hW2]; exact ((Below.refl _ w).alloc (Nat.le_refl _) _).alloc (by simp) _
  have c0 : W2.cell? ⟨w.heap.size, 0, none⟩ = some (.int .i64 k) := by rw [hW2]; simp
  have c1 : W2.cell? ⟨w.heap.size, 1, none⟩ = some (.string s) := by rw [hW2]; simp
  dsimp only [Z8] at hW2
  obtain ⟨e0, e1, e2, e3, e4, e5, e6, e7⟩ := I8.cells (b0 := 0) (b1 := 0) (b2 := 0) (b3 := 0) (b4 := 0) (b5 := 0) (b6 := 0) (b7 := 0) hX
  obtain ⟨f0, f1, f2, f3, f4, f5, f6, f7⟩ := hX.free
  have HB2 : Hid (Below w.heap.size w (set8 W2 (w.heap.size + 1) 0 0 0 0 0 0 0 0)) := below_set8 hB2 (by omega) _ _ _ _ _ _ _ _
  clear hX hB2
  go_enter Try.func9, Try.ntmps9
  go_wp2_with fail
  rw [← hW2]
  clear hW2
  refine (hisk _).mono ?_
  rintro e u ⟨rfl, hu⟩
  obtain rfl := hu.symm
  clear hu hisk
  go_wp2_with fail
  refine bodyPost_ret (v := .tuple #[.agg #[B 0, B 0, B 0, B 0, B 0, B 0, B 0, B 0], .int .i64 2]) ?_ rfl ⟨rfl, HB2.out⟩
  have hres : Try.f9.results = #[.cell 2 26, .tmp 3] := by kernel_rfl
  simp only [results, hres]
  go_simp
  rfl

/-- what ID answers -/
theorem pid_any (b : Blb) (w : World) (hb : b.bytes.size ≤ 9223372036854775807) :
    Calls Try.prog 9 #[blV b] w fun e w' => e = .returned (.tuple #[.agg ((idOr b).map B).toArray, .int .i64 (Pk.bErr b.p)]) ∧ Below w.heap.size w w' := by
  obtain ⟨k, s⟩ := b
  have hsz : s.data.toList.length = s.size := (Lib.size_eq s).symm
  by_cases hk : kB k = true
  · have hk' : k = 1 ∨ k = 2 ∨ k = 3 := kB_of.1 hk
    by_cases hs : s.size ≤ 4096
    · have he : Pk.bErr (Blb.p ⟨k, s⟩) = 0 := by
        show (if k = 1 ∨ k = 2 ∨ k = 3 then (if 4096 < s.data.toList.length then (2 : Int) else 0) else 5) = 0
        rw [if_pos hk', if_neg (by omega)]
      have hi : idOr ⟨k, s⟩ = Nm.low 8 (Mx.narrow 64 (UInt8.ofNat k.toNat :: s.data.toList)) := by rw [idOr, if_pos he]; rfl
      obtain ⟨b0, b1, b2, b3, b4, b5, b6, b7, hL⟩ := eight _ (idOr_length ⟨k, s⟩)
      obtain ⟨n, rfl⟩ : ∃ n : Nat, k = (n : Int) := ⟨k.toNat, by rcases hk' with rfl | rfl | rfl <;> rfl⟩
      have hn3 : n ≤ 3 := by rcases hk' with h | h | h <;> omega
      rw [he, hL]
      refine pid_of b0 b1 b2 b3 b4 b5 b6 b7 n s w hk hn3 hs fun W => ?_
      have := id_any ⟨(UInt8.ofNat n :: s.data.toList).toArray⟩ W (by rw [Lib.size_eq]; simp only [List.length_cons]; omega)
      rw [show Nm.low 8 (Mx.narrow 64 (⟨(UInt8.ofNat n :: s.data.toList).toArray⟩ : ByteArray).data.toList) = [b0, b1, b2, b3, b4, b5, b6, b7] from by rw [← hL, hi]; rfl] at this
      exact this
    · have he : Pk.bErr (Blb.p ⟨k, s⟩) = 2 := by
        show (if k = 1 ∨ k = 2 ∨ k = 3 then (if 4096 < s.data.toList.length then (2 : Int) else 0) else 5) = 2
        rw [if_pos hk', if_pos (by omega)]
      rw [idOr, if_neg (by omega), he]
      exact pid_large k s w hk (by omega) hb
  · have he : Pk.bErr (Blb.p ⟨k, s⟩) = 5 := by
      show (if k = 1 ∨ k = 2 ∨ k = 3 then (if 4096 < s.data.toList.length then (2 : Int) else 0) else 5) = 5
      rw [if_neg (fun h : k = 1 ∨ k = 2 ∨ k = 3 => hk (kB_of.2 h))]
    rw [idOr, if_neg (by omega), he]
    exact pid_kind k s w (by simpa using hk)
end Go.Proofs.Ytkhejelmjkpgfaa

namespace Go.Proofs.Ytkhejelmjkpgfaa
open Go.RowKit
set_option maxRecDepth 4000

def alErr (a b : Blb) : Int := if blSame a b then 10 else 11
theorem alike_any (a b : Blb) (w : World) :
    Calls Try.prog 43 #[blV a, blV b] w fun e w' => e = .returned (.int .i64 (alErr a b)) ∧ Below w.heap.size w w' := by
  have hc := fun W => bl_cmp W a b
  have HB : Hid (∀ o1 o2, Below w.heap.size w ((w.alloc o1).alloc o2)) := fun o1 o2 => ((Below.refl _ w).alloc (Nat.le_refl _) _).alloc (by simp) _
  unfold blV
  cases hs : blSame a b with
  | true =>
    have HE : Hid (alErr a b = 10) := by show _ = _; rw [alErr, hs]; rfl
    rw [hs] at hc
    clear hs
    go_enter Try.func43, Try.ntmps43
    go_wp2_with fail
    go_ret
    exact ⟨by rw [HE.out]; rfl, HB.out _ _⟩
  | false =>
    have HE : Hid (alErr a b = 11) := by show _ = _; rw [alErr, hs]; rfl
    rw [hs] at hc
    clear hs
    go_enter Try.func43, Try.ntmps43
    go_wp2_with fail
    go_ret
    exact ⟨by rw [HE.out]; rfl, HB.out _ _⟩

set_option maxHeartbeats 1000000 in
theorem rpid_of (b0 b1 b2 b3 b4 b5 b6 b7 : UInt8) (k : Nat) (s : ByteArray) (w : World) (hk : kB (k : Int) = true) (hk3 : k ≤ 3) (hs : s.size ≤ 4096)
    (hn : ∀ W, Calls Try.prog 26 #[.string ⟨(UInt8.ofNat k :: s.data.toList).toArray⟩] W fun e w' => e = .returned (.agg #[B b0, B b1, B b2, B b3, B b4, B b5, B b6, B b7]) ∧ Below W.heap.size W w') :
    Calls Try.prog 10 #[.agg #[.int .i64 k, .string s]] w fun e w' => e = .returned (.tuple #[.agg #[B b0, B b1, B b2, B b3, B b4, B b5, B b6, B b7], .int .i64 0]) ∧ Below w.heap.size w w' := by
  simp only [B] at hn
  have hisk := fun W => rkind_any (k : Int) W
  rw [hk] at hisk
  clear hk
  have hcat : ∀ W : World, (Op.stringOp .add ⟨#[UInt8.ofNat k]⟩ s).run Try.prog W = .ok (.string ⟨(UInt8.ofNat k :: s.data.toList).toArray⟩) W := fun W => by
    have := run_string_add_lists (P := Try.prog) W [UInt8.ofNat k] s.data.toList (by simp) (by rw [← Lib.size_eq]; omega)
    exact this
  obtain ⟨W2, hW2⟩ : ∃ W2, W2 = (w.alloc (.cells #[.int .i64 k, .string s] 24)).alloc (.cells Z8 26) := ⟨_, rfl⟩
  have hsz : W2.heap.size = w.heap.size + 2 := by rw [hW2]; simp
  have hX : I8 W2 (w.heap.size + 1) (List.replicate 8 0) := by
    rw [hW2]
    have := I8.new (w.alloc (.cells #[.int .i64 k, .string s] 24)) 26
    rwa [World.size_alloc] at this
  have hB2 : Below w.heap.size w W2 := by rw [hW2]; exact ((Below.refl _ w).alloc (Nat.le_refl _) _).alloc (by simp) _
  have c0 : W2.cell? ⟨w.heap.size, 0, none⟩ = some (.int .i64 k) := by rw [hW2]; simp
  have c1 : W2.cell? ⟨w.heap.size, 1, none⟩ = some (.string s) := by rw [hW2]; simp
  have hr1 := str_new (k : Int) (by omega) (by omega) W2
  simp only [Int.toNat_natCast, hsz] at hr1
  dsimp only [Z8] at hW2
  go_enter Try.func10, Try.ntmps10
  go_wp2_with fail
  rw [← hW2]
  clear hW2
  refine (hisk _).mono ?_
  rintro e u ⟨rfl, hu⟩
  obtain rfl := hu.symm
  clear hu hisk
  go_wp2_with fail
  refine (hn _).mono ?_
  rintro e w2 ⟨rfl, hb2⟩
  have hb1 : Below W2.heap.size W2 w2 := ((Below.refl _ W2).alloc (Nat.le_refl _) _).trans (hb2.mono (by simp))
  have hX2 := hX.below hb1 (by omega)
  obtain ⟨e0, e1, e2, e3, e4, e5, e6, e7⟩ := I8.cells (b0 := 0) (b1 := 0) (b2 := 0) (b3 := 0) (b4 := 0) (b5 := 0) (b6 := 0) (b7 := 0) hX2
  obtain ⟨f0, f1, f2, f3, f4, f5, f6, f7⟩ := hX2.free
  have HB2 : Hid (Below w.heap.size w (set8 w2 (w.heap.size + 1) b0 b1 b2 b3 b4 b5 b6 b7)) := below_set8 (hB2.trans (hb1.mono (by omega))) (by omega) _ _ _ _ _ _ _ _
  clear hX hX2 hb2 hb1 hB2 hn hr1 hcat
  go_wp2_with fail
  refine bodyPost_ret (v := .tuple #[.agg #[B b0, B b1, B b2, B b3, B b4, B b5, B b6, B b7], .int .i64 0]) ?_ rfl ⟨rfl, HB2.out⟩
  have hres : Try.f10.results = #[.cell 2 26, .tmp 3] := by kernel_rfl
  simp only [results, hres]
  go_simp
  exact ⟨rfl, rfl, rfl, rfl, rfl, rfl, rfl, rfl⟩

set_option maxHeartbeats 1000000 in
theorem rpid_kind (k : Int) (s : ByteArray) (w : World) (hk : kB k = false) :
    Calls Try.prog 10 #[.agg #[.int .i64 k, .string s]] w fun e w' => e = .returned (.tuple #[.agg ((List.replicate 8 0).map B).toArray, .int .i64 5]) ∧ Below w.heap.size w w' := by
  have hisk := fun W => rkind_any k W
  rw [hk] at hisk
  clear hk
  obtain ⟨W2, hW2⟩ : ∃ W2, W2 = (w.alloc (.cells #[.int .i64 k, .string s] 24)).alloc (.cells Z8 26) := ⟨_, rfl⟩
  have hX : I8 W2 (w.heap.size + 1) (List.replicate 8 0) := by
    rw [hW2]
    have := I8.new (w.alloc (.cells #[.int .i64 k, .string s] 24)) 26
    rwa [World.size_alloc] at this
  have hB2 : Below w.heap.size w W2 := by rw [hW2]; exact ((Below.refl _ w).alloc (Nat.le_refl _) _).alloc (by simp) _
  have c0 : W2.cell? ⟨w.heap.size, 0, none⟩ = some (.int .i64 k) := by rw [hW2]; simp
  have c1 : W2.cell? ⟨w.heap.size, 1, none⟩ = some (.string s) := by rw [hW2]; simp
  dsimp only [Z8] at hW2
  obtain ⟨e0, e1, e2, e3, e4, e5, e6, e7⟩ := I8.cells (b0 := 0) (b1 := 0) (b2 := 0) (b3 := 0) (b4 := 0) (b5 := 0) (b6 := 0) (b7 := 0) hX
  obtain ⟨f0, f1, f2, f3, f4, f5, f6, f7⟩ := hX.free
  have HB2 : Hid (Below w.heap.size w (set8 W2 (w.heap.size + 1) 0 0 0 0 0 0 0 0)) := below_set8 hB2 (by omega) _ _ _ _ _ _ _ _
  clear hX hB2
  go_enter Try.func10, Try.ntmps10
  go_wp2_with fail
  rw [← hW2]
  clear hW2
  refine (hisk _).mono ?_
  rintro e u ⟨rfl, hu⟩
  obtain rfl := hu.symm
  clear hu hisk
  go_wp2_with fail
  refine bodyPost_ret (v := .tuple #[.agg #[B 0, B 0, B 0, B 0, B 0, B 0, B 0, B 0], .int .i64 5]) ?_ rfl ⟨rfl, HB2.out⟩
  have hres : Try.f10.results = #[.cell 2 26, .tmp 3] := by kernel_rfl
  simp only [results, hres]
  go_simp
  rfl

set_option maxHeartbeats 1000000 in
theorem rpid_large (k : Int) (s : ByteArray) (w : World) (hk : kB k = true) (hs : 4096 < s.size) (hs2 : s.size ≤ 9223372036854775807) :
    Calls Try.prog 10 #[.agg #[.int .i64 k, .string s]] w fun e w' => e = .returned (.tuple #[.agg ((List.replicate 8 0).map B).toArray, .int .i64 2]) ∧ Below w.heap.size w w' := by
  have hisk := fun W => rkind_any k W
  rw [hk] at hisk
  clear hk
  obtain ⟨W2, hW2⟩ : ∃ W2, W2 = (w.alloc (.cells #[.int .i64 k, .string s] 24)).alloc (.cells Z8 26) := ⟨_, rfl⟩
  have hX : I8 W2 (w.heap.size + 1) (List.replicate 8 0) := by
    rw [hW2]
    have := I8.new (w.alloc (.cells #[.int .i64 k, .string s] 24)) 26
    rwa [World.size_alloc] at this
  have hB2 : Below w.heap.size w W2 := by rw [hW2]; exact ((Below.refl _ w).alloc (Nat.le_refl _) _).alloc (by simp) _
  have c0 : W2.cell? ⟨w.heap.size, 0, none⟩ = some (.int .i64 k) := by rw [hW2]; simp
  have c1 : W2.cell? ⟨w.heap.size, 1, none⟩ = some (.string s) := by rw [hW2]; simp
  dsimp only [Z8] at hW2
  obtain ⟨e0, e1, e2, e3, e4, e5, e6, e7⟩ := I8.cells (b0 := 0) (b1 := 0) (b2 := 0) (b3 := 0) (b4 := 0) (b5 := 0) (b6 := 0) (b7 := 0) hX
  obtain ⟨f0, f1, f2, f3, f4, f5, f6, f7⟩ := hX.free
  have HB2 : Hid (Below w.heap.size w (set8 W2 (w.heap.size + 1) 0 0 0 0 0 0 0 0)) := below_set8 hB2 (by omega) _ _ _ _ _ _ _ _
  clear hX hB2
  go_enter Try.func10, Try.ntmps10
  go_wp2_with fail
  rw [← hW2]
  clear hW2
  refine (hisk _).mono ?_
  rintro e u ⟨rfl, hu⟩
  obtain rfl := hu.symm
  clear hu hisk
  go_wp2_with fail
  refine bodyPost_ret (v := .tuple #[.agg #[B 0, B 0, B 0, B 0, B 0, B 0, B 0, B 0], .int .i64 2]) ?_ rfl ⟨rfl, HB2.out⟩
  have hres : Try.f10.results = #[.cell 2 26, .tmp 3] := by kernel_rfl
  simp only [results, hres]
  go_simp
  rfl

/-- what the document's ID of a blob is -/
theorem rpid_any (b : Blb) (w : World) (hb : b.bytes.size ≤ 9223372036854775807) :
    Calls Try.prog 10 #[blV b] w fun e w' => e = .returned (.tuple #[.agg ((idOr b).map B).toArray, .int .i64 (Pk.bErr b.p)]) ∧ Below w.heap.size w w' := by
  obtain ⟨k, s⟩ := b
  have hsz : s.data.toList.length = s.size := (Lib.size_eq s).symm
  by_cases hk : kB k = true
  · have hk' : k = 1 ∨ k = 2 ∨ k = 3 := kB_of.1 hk
    by_cases hs : s.size ≤ 4096
    · have he : Pk.bErr (Blb.p ⟨k, s⟩) = 0 := by
        show (if k = 1 ∨ k = 2 ∨ k = 3 then (if 4096 < s.data.toList.length then (2 : Int) else 0) else 5) = 0
        rw [if_pos hk', if_neg (by omega)]
      have hi : idOr ⟨k, s⟩ = Nm.low 8 (Mx.narrow 64 (UInt8.ofNat k.toNat :: s.data.toList)) := by rw [idOr, if_pos he]; rfl
      obtain ⟨b0, b1, b2, b3, b4, b5, b6, b7, hL⟩ := eight _ (idOr_length ⟨k, s⟩)
      obtain ⟨n, rfl⟩ : ∃ n : Nat, k = (n : Int) := ⟨k.toNat, by rcases hk' with rfl | rfl | rfl <;> rfl⟩
      have hn3 : n ≤ 3 := by rcases hk' with h | h | h <;> omega
      rw [he, hL]
      refine rpid_of b0 b1 b2 b3 b4 b5 b6 b7 n s w hk hn3 hs fun W => ?_
      have := rid_any ⟨(UInt8.ofNat n :: s.data.toList).toArray⟩ W (by rw [Lib.size_eq]; simp only [List.length_cons]; omega)
      rw [show Nm.low 8 (Mx.narrow 64 (⟨(UInt8.ofNat n :: s.data.toList).toArray⟩ : ByteArray).data.toList) = [b0, b1, b2, b3, b4, b5, b6, b7] from by rw [← hL, hi]; rfl] at this
      exact this
    · have he : Pk.bErr (Blb.p ⟨k, s⟩) = 2 := by
        show (if k = 1 ∨ k = 2 ∨ k = 3 then (if 4096 < s.data.toList.length then (2 : Int) else 0) else 5) = 2
        rw [if_pos hk', if_pos (by omega)]
      rw [idOr, if_neg (by omega), he]
      exact rpid_large k s w hk (by omega) hb
  · have he : Pk.bErr (Blb.p ⟨k, s⟩) = 5 := by
      show (if k = 1 ∨ k = 2 ∨ k = 3 then (if 4096 < s.data.toList.length then (2 : Int) else 0) else 5) = 5
      rw [if_neg (fun h : k = 1 ∨ k = 2 ∨ k = 3 => hk (kB_of.2 h))]
    rw [idOr, if_neg (by omega), he]
    exact rpid_kind k s w (by simpa using hk)
end Go.Proofs.Ytkhejelmjkpgfaa

namespace Go.Proofs.Ytkhejelmjkpgfaa
open Go.RowKit Go.ChangeShapes Go.WideShapes Go.Deep Go.Joins
set_option maxRecDepth 20000

/-- what is sure of blobs that come in -/
def BOk (l : List Blb) : Prop := ∀ b ∈ l, (Lit.int .i64 b.kind).wf = true ∧ b.bytes.size ≤ 9223372036854775807
def EOk (e : Ent) : Prop := (Lit.int .i64 e.kind).wf = true ∧ (Lit.int .i64 e.at_).wf = true ∧ (Lit.int .i64 e.len).wf = true
section
variable {H : Type} {enc : TypeId × Value → H} {w : World} {base : Nat} {spare : Nat → Bool} {held : Bool}
theorem bl_fields : ∃ f0 f1, Try.prog.underlying 24 = some (.struct #[f0, f1]) ∧ f0.type = 3 ∧ f0.offset = 0 ∧ f1.type = 9 ∧ f1.offset = 1 :=
  ⟨_, _, Try.underlying24, rfl, rfl, rfl, rfl⟩
theorem open_blob {n : Nat} {cs : List Value} {x : DataW H × List MemPlace} (hc : cs.length = 2) (h : DataW.trod enc Try.prog w base spare held n 24 cs = some x) : ∃ t : Blb, cs = blC t ∧ (Lit.int .i64 t.kind).wf = true ∧ t.bytes.size ≤ 9223372036854775807 := by
  obtain ⟨f0, f1, hu, t0, o0, t1, o1⟩ := bl_fields
  have k0 : Try.prog.cellsOf 3 = 1 := by kernel_rfl
  have k1 : Try.prog.cellsOf 9 = 1 := by kernel_rfl
  obtain ⟨y0, y1, m, _, _, g0, g1⟩ := trod_struct2 hu h
  match cs, hc with
  | [v0, v1], _ =>
    simp only [t0, o0, k0, t1, o1, k1] at g0 g1
    obtain ⟨a, ha, _, hw⟩ := DataW.trod_int Try.underlying3 g0
    obtain ⟨b, hb, _, hs⟩ := DataW.trod_string Try.underlying9 g1
    obtain rfl : v0 = .int .i64 a := by simpa using ha
    obtain rfl : v1 = .string b := by simpa using hb
    exact ⟨⟨a, b⟩, rfl, hw, by unfold maxLen at hs; exact hs⟩
theorem choose_row {α : Type} {q : Nat → α → Prop} : ∀ (n : Nat), (∀ i, i < n → ∃ t, q i t) → ∃ l : List α, l.length = n ∧ ∀ i t, l[i]? = some t → q i t
  | 0, _ => ⟨[], rfl, fun i t h => by simp at h⟩
  | n + 1, h => by
    obtain ⟨l, hl, hq⟩ := choose_row n fun i hi => h i (by omega)
    obtain ⟨t, ht⟩ := h n (by omega)
    refine ⟨l ++ [t], by simp [hl], fun i u hu => ?_⟩
    by_cases hi : i < n
    · rw [List.getElem?_append_left (by omega)] at hu
      exact hq i u hu
    · have : i = n := by
        have := (List.getElem?_eq_some_iff.1 hu).1
        simp at this
        omega
      subst this
      rw [List.getElem?_append_right (by omega), hl] at hu
      obtain rfl : t = u := by simpa using hu
      exact ht
theorem open_blobs {fuel : Nat} {sa : Option Addr} {len cap : Nat} {x : DataW H × List MemPlace} (h : DataW.trod enc Try.prog w base spare held fuel 22 [.slice sa len cap] = some x) (hlt : ∀ y ∈ x.2, y.block < w.heap.size) :
    ∃ l : List Blb, Bx w (.slice sa len cap) l ∧ BOk l ∧ (l.length = 0 ∨ ∃ elems sp, x.1 = .slice elems sp ∧ l.length = elems.length) := by
  rcases open_slice Try.underlying22 h with ⟨hcs, hx⟩ | ⟨a, len', cap', m, n, D, Pl, hcs, _, hl, hm, hmm, hx, hall⟩
  · simp at hcs
    obtain ⟨rfl, rfl, rfl⟩ := hcs
    exact ⟨[], ⟨.inl ⟨⟨_, _, rfl⟩, rfl⟩, _, _, _, rfl, Nat.le_refl _, by omega⟩, (fun b hb => by simp at hb), .inl rfl⟩
  · simp at hcs
    obtain ⟨rfl, rfl, rfl⟩ := hcs
    have hlm : len ≤ m := by rw [hmm]; split <;> omega
    have k3 : Try.prog.cellsOf 24 = 2 := by kernel_rfl
    rw [k3] at hall
    obtain ⟨L, hL, hT⟩ := choose_row (q := fun i t => w.cells? base (a.add (i * 2)) 2 = some (blC t) ∧ (Lit.int .i64 t.kind).wf = true ∧ t.bytes.size ≤ 9223372036854775807) len (fun i hi => by
      obtain ⟨cs', h1, h2⟩ := hall i (by omega)
      obtain ⟨_, hlen, _⟩ := World.cells?_some h1
      obtain ⟨t, rfl, h3⟩ := open_blob hlen h2
      exact ⟨t, h1, h3⟩)
    subst hx
    have hm' : cap ≤ 9223372036854775807 := by unfold maxLen at hm; omega
    have hok : BOk L := fun b hb => by
      obtain ⟨i, hi, rfl⟩ := List.getElem_of_mem hb
      exact (hT i _ (List.getElem?_eq_getElem hi)).2
    refine ⟨L, ?_, hok, .inr ⟨_, _, rfl, by simp [hL]⟩⟩
    by_cases hc0 : len = 0
    · subst hc0
      exact ⟨.inl ⟨⟨_, _, rfl⟩, List.length_eq_zero_iff.1 hL⟩, _, _, _, rfl, hl, hm'⟩
    · have hcell : ∀ j t, L[j]? = some t → ∀ r v, (blC t)[r]? = some v → w.cell? (a.add (j * 2 + r)) = some v := fun j t hj r v hv => by
        obtain ⟨_, hlen, hc⟩ := World.cells?_some (hT j t hj).1
        have hr : r < 2 := by
          have := (List.getElem?_eq_some_iff.1 hv).1
          simpa [blC] using this
        have := hc r hr
        rw [add_add, hv] at this
        exact this
      obtain ⟨b, off, spot⟩ := a
      have hspot : spot = none := by simpa [Addr.add] using World.cell?_spot (hcell 0 _ (List.getElem?_eq_getElem (by omega)) 0 _ rfl)
      subst hspot
      have hbW : b < w.heap.size := hlt (.cell b off) (List.mem_append_left _ (MemPlace.mem_row.2 ⟨0, by rw [k3]; omega, by simp⟩))
      refine ⟨.inr ⟨b, off, cap, by rw [hL], hbW, fun j t hj r u hu => ?_⟩, _, _, _, rfl, hl, hm'⟩
      have e := hcell j t hj r u hu
      rw [add_plain] at e
      rw [Nat.add_assoc]
      exact e
theorem trod_arr_mk {P : Program} {t e : TypeId} {n m : Nat} {cs : List Value} {xs : List (DataW H × List MemPlace)} (ht : P.underlying t = some (.array n e)) (hl : cs.length = P.cellsOf t) (hx : xs.length = n)
    (h : ∀ i, i < n → DataW.trod enc P w base spare held m e ((cs.drop (i * P.cellsOf e)).take (P.cellsOf e)) = xs[i]?) : DataW.trod enc P w base spare held (m + 1) t cs = some (.agg (xs.map (·.1)), xs.flatMap (·.2)) := by
  unfold DataW.trod
  rw [ht]
  simp only [hl, if_true]
  rw [mapM_some_of_get (List.range n) xs (by rw [List.length_range, hx]) (fun i x hix => by
    obtain ⟨hi, rfl⟩ := List.getElem?_eq_some_iff.1 hix
    rw [List.getElem_range]
    exact h i (by simpa using hi))]
  rfl
def byD (H : Type) (b : UInt8) : DataW H := .lit (.int .u8 (b.toNat : Int))
def entD (H : Type) (e : Ent) : DataW H := .agg [.agg (e.id.map (byD H)), .lit (.int .i64 e.kind), .lit (.int .i64 e.at_), .lit (.int .i64 e.len)]
theorem ce_ent : Try.prog.cellsOf 38 = 11 := by kernel_rfl
theorem ce_id : Try.prog.cellsOf 26 = 8 := by kernel_rfl
theorem ce_u8 : Try.prog.cellsOf 5 = 1 := by kernel_rfl
theorem ce_int : Try.prog.cellsOf 3 = 1 := by kernel_rfl
theorem wf_by {n : Int} (h : (Lit.int .u8 n).wf = true) : ∃ b : UInt8, n = (b.toNat : Int) := by
  simp [Lit.wf, IntKind.min, IntKind.max, IntKind.signed, IntKind.bits] at h
  refine ⟨UInt8.ofNat n.toNat, ?_⟩
  rw [UInt8.toNat_ofNat']
  omega
theorem by_opened : ∀ (cs : List Value) (xs : List (DataW H × List MemPlace)), xs.length = cs.length →
    (∀ j, j < cs.length → ∃ m, DataW.trod enc Try.prog w base spare held m 5 ((cs.drop j).take 1) = xs[j]?) → ∃ l : List UInt8, cs = l.map B ∧ xs = l.map (fun b => (byD H b, []))
  | [], [], _, _ => ⟨[], rfl, rfl⟩
  | c :: cs, x :: xs, hl, h => by
    obtain ⟨m, h0⟩ := h 0 (by simp)
    obtain ⟨n, hc, hx, hw⟩ := DataW.trod_int Try.underlying5 (show DataW.trod enc Try.prog w base spare held m 5 [c] = some x from by simpa using h0)
    obtain ⟨b, rfl⟩ := wf_by hw
    obtain ⟨l, hcs, hxs⟩ := by_opened cs xs (by simpa using hl) (fun j hj => by
      obtain ⟨m, hm⟩ := h (j + 1) (by simpa using hj)
      exact ⟨m, by simpa using hm⟩)
    refine ⟨b :: l, ?_, ?_⟩
    · rw [List.map_cons, ← hcs]
      have : c = .int .u8 (b.toNat : Int) := by simpa using hc
      rw [this]; rfl
    · rw [List.map_cons, ← hxs, hx]; rfl
theorem open_ent {r : Reach} {b0 : Nat} {v : Value} {d : DataW H} {p : List MemPlace} (hv : Value.okWide Try.prog w r b0 38 v) (h : DataW.Trod enc Try.prog w base spare held 38 v d p) :
    ∃ e : Ent, v = enV e ∧ d = entD H e ∧ p = [] ∧ EOk e := by
  obtain ⟨cs, rfl, hsz⟩ := okWide_struct Try.underlying38 hv
  rw [ce_ent] at hsz
  obtain ⟨fuel, hf⟩ := h
  obtain ⟨y0, y1, y2, y3, n, hx, hlen, h0, h1, h2, h3⟩ := trod_struct4 Try.underlying38 hf
  simp only [Value.cells, ce_id, ce_int, List.drop_zero] at h0 h1 h2 h3
  obtain ⟨xs, m, rfl, hy0, _, hxl, hxs⟩ := DataW.trod_array (show Try.prog.underlying 26 = some (.array 8 5) from by kernel_rfl) h0
  simp only [ce_u8, Nat.mul_one] at hxs
  obtain ⟨l, hl, hxl2⟩ := by_opened (enc := enc) (w := w) (base := base) (spare := spare) (held := held) (cs.toList.take 8) xs (by rw [hxl, List.length_take, Array.length_toList, hsz]; rfl) (fun j hj => ⟨m, hxs j (by rw [List.length_take] at hj; omega)⟩)
  obtain ⟨i, hc1, hy1, hw1⟩ := DataW.trod_int Try.underlying3 h1
  obtain ⟨u, hc2, hy2, hw2⟩ := DataW.trod_int Try.underlying3 h2
  obtain ⟨z, hc3, hy3, hw3⟩ := DataW.trod_int Try.underlying3 h3
  have hll : l.length = 8 := by
    have : (l.map B).length = 8 := by rw [← hl, List.length_take, Array.length_toList, hsz]; rfl
    simpa using this
  refine ⟨⟨l, hll, i, u, z⟩, ?_, ?_, ?_, hw1, hw2, hw3⟩
  · have hcs : cs.toList = l.map B ++ [.int .i64 i, .int .i64 u, .int .i64 z] := by
      have e1 : cs.toList = cs.toList.take 8 ++ ((cs.toList.drop 8).take 1 ++ ((cs.toList.drop 9).take 1 ++ (cs.toList.drop 10).take 1)) := by
        conv => lhs; rw [← List.take_append_drop 8 cs.toList]
        congr 1
        have : (cs.toList.drop 8).length = 3 := by rw [List.length_drop, Array.length_toList, hsz]
        rw [show cs.toList.drop 9 = (cs.toList.drop 8).drop 1 from by rw [List.drop_drop], show cs.toList.drop 10 = (cs.toList.drop 8).drop 2 from by rw [List.drop_drop]]
        generalize cs.toList.drop 8 = q at this
        match q, this with
        | [a, b, c], _ => rfl
      rw [e1, hl, hc1, hc2, hc3]
      rfl
    show Value.agg cs = .agg (l.map B ++ [Value.int .i64 i, Value.int .i64 u, Value.int .i64 z]).toArray
    rw [← hcs]
  · have := congrArg Prod.fst hx
    rw [show d = _ from this, hy0, hy1, hy2, hy3, hxl2]
    simp [entD, List.map_map, Function.comp_def]
  · have := congrArg Prod.snd hx
    rw [show p = _ from this, hy0, hy1, hy2, hy3, hxl2]
    simp
theorem trod_id {l : List UInt8} (hl : l.length = 8) : DataW.trod enc Try.prog w base spare held 2 26 (l.map B) = some (.agg (l.map (byD H)), []) := by
  have hb : ∀ b : UInt8, (Lit.int .u8 (b.toNat : Int)).wf = true := fun b => by
    have := b.toNat_lt
    simp [Lit.wf, IntKind.min, IntKind.max, IntKind.signed, IntKind.bits]; omega
  have hlm : (l.map B).length = 8 := by rw [List.length_map, hl]
  have := trod_arr_mk (enc := enc) (w := w) (base := base) (spare := spare) (held := held) (m := 1) (xs := l.map (fun b => (byD H b, ([] : List MemPlace)))) (show Try.prog.underlying 26 = some (.array 8 5) from by kernel_rfl) (by rw [ce_id, hlm]) (by rw [List.length_map, hl]) (fun j hj => by
    rw [ce_u8, Nat.mul_one]
    have hjl : j < l.length := by omega
    rw [List.getElem?_map, List.getElem?_eq_getElem hjl]
    have hd : ((l.map B).drop j).take 1 = [B l[j]] := by
      rw [List.drop_eq_getElem_cons (by rw [List.length_map]; exact hjl), List.getElem_map]; rfl
    rw [hd]
    exact trod_int_mk 0 Try.underlying5 (hb l[j]))
  rw [this, List.map_map]
  simp [Function.comp_def]
theorem shut_ent {e : Ent} (he : EOk e) : DataW.Trod enc Try.prog w base spare held 38 (enV e) (entD H e) [] := by
  obtain ⟨l, hl, i, u, z⟩ := e
  obtain ⟨hi, hu, hz⟩ := he
  have hlm : (l.map B).length = 8 := by rw [List.length_map, hl]
  have t0 := trod_id (enc := enc) (w := w) (base := base) (spare := spare) (held := held) hl
  have cs0 : enC ⟨l, hl, i, u, z⟩ = l.map B ++ [.int .i64 i, .int .i64 u, .int .i64 z] := rfl
  have d0 : ((enC ⟨l, hl, i, u, z⟩).drop 0).take 8 = l.map B := by
    rw [List.drop_zero, cs0, List.take_append_of_le_length (by omega), List.take_of_length_le (by omega)]
  have d1 : ((enC ⟨l, hl, i, u, z⟩).drop 8).take 1 = [.int .i64 i] := by
    rw [cs0, List.drop_append, hlm, List.drop_of_length_le (by omega)]; rfl
  have d2 : ((enC ⟨l, hl, i, u, z⟩).drop 9).take 1 = [.int .i64 u] := by
    rw [cs0, List.drop_append, hlm, List.drop_of_length_le (by omega)]; rfl
  have d3 : ((enC ⟨l, hl, i, u, z⟩).drop 10).take 1 = [.int .i64 z] := by
    rw [cs0, List.drop_append, hlm, List.drop_of_length_le (by omega)]; rfl
  refine ⟨3, ?_⟩
  have := trod_struct4_mk (enc := enc) (w := w) (base := base) (spare := spare) (held := held) (n := 2) (cs := enC ⟨l, hl, i, u, z⟩) (y0 := (.agg (l.map (byD H)), [])) (y1 := (.lit (.int .i64 i), [])) (y2 := (.lit (.int .i64 u), [])) (y3 := (.lit (.int .i64 z), [])) Try.underlying38 (by rw [ce_ent, enC_length])
    (by rw [ce_id]; show DataW.trod enc Try.prog w base spare held 2 26 (((enC ⟨l, hl, i, u, z⟩).drop 0).take 8) = _; rw [d0]; exact t0)
    (by rw [ce_int]; show DataW.trod enc Try.prog w base spare held 2 3 (((enC ⟨l, hl, i, u, z⟩).drop 8).take 1) = _; rw [d1]; exact trod_int_mk 1 Try.underlying3 hi)
    (by rw [ce_int]; show DataW.trod enc Try.prog w base spare held 2 3 (((enC ⟨l, hl, i, u, z⟩).drop 9).take 1) = _; rw [d2]; exact trod_int_mk 1 Try.underlying3 hu)
    (by rw [ce_int]; show DataW.trod enc Try.prog w base spare held 2 3 (((enC ⟨l, hl, i, u, z⟩).drop 10).take 1) = _; rw [d3]; exact trod_int_mk 1 Try.underlying3 hz)
  exact this
end
end Go.Proofs.Ytkhejelmjkpgfaa

namespace Go.Proofs.Ytkhejelmjkpgfaa
open Go.RowKit Go.WideMaps
open Go.Maps (Keyed IsMap)
set_option maxRecDepth 20000

theorem laid_out : laidOutB Try.prog = true := by kernel_rfl
theorem id_row : (26 : TypeId) < Try.prog.types.size := of_decide_eq_true (by kernel_rfl)
theorem id_under : Try.prog.underlying 26 = some (.array 8 5) := by kernel_rfl
theorem id_wide : (match Try.prog.underlying 26 with | some (.array _ _) | some (.struct _) => true | _ => false) = true := by rw [id_under]
theorem id_law : KeyLaw Try.prog 26 := deep_law_laid laid_out (m := 2) (by omega) id_row (by kernel_rfl) id_wide
theorem id_keyed : Keyed Try.prog 26 := Keyed.of_law id_law
theorem id_arr : ArrKey Try.prog 26 5 8 := ⟨id_under, by kernel_rfl, by kernel_rfl, ce_id⟩
theorem some_types : ∃ m, Try.prog.types.size = m + 1 := ⟨_, (Nat.succ_pred_eq_of_pos (Nat.lt_of_le_of_lt (Nat.zero_le _) id_row)).symm⟩
theorem key_there {x : List UInt8} (hx : x.length = 8) : ∃ l, keyOf Try.prog 26 (.agg (x.map B).toArray) = some l := by
  obtain ⟨ls, _, _, h⟩ := open_arr (H := Unit) (enc := fun _ => ()) (W := World.settled Try.prog default) (base := 0) (sp := fun _ => true) (held := true) id_arr Try.underlying5 some_types (xs := (x.map B).toArray) (by simp [hx]) ⟨2, by
    have := trod_id (H := Unit) (enc := fun _ => ()) (w := World.settled Try.prog default) (base := 0) (spare := fun _ => true) (held := true) hx
    simpa [Value.cells] using this⟩
  exact ⟨_, h⟩
def kl (P : Program) (x : List UInt8) : Lit := (keyOf P 26 (.agg (x.map B).toArray)).getD (.bool false)
theorem kl_key {x : List UInt8} (hx : x.length = 8) : keyOf Try.prog 26 (.agg (x.map B).toArray) = some (kl Try.prog x) := by
  obtain ⟨l, h⟩ := key_there hx
  rw [kl, h]; rfl
theorem B_inj {a b : UInt8} (h : B a = B b) : a = b := by
  simp only [B, Value.int.injEq, true_and] at h
  exact UInt8.toNat_inj.1 (by exact_mod_cast h)
theorem idV_inj {x y : List UInt8} (h : (Value.agg (x.map B).toArray) = .agg (y.map B).toArray) : x = y := by
  have h := congrArg Array.toList (Value.agg.inj h)
  have h : x.map B = y.map B := h
  exact (List.map_inj_right fun _ _ => B_inj).1 h
theorem kl_inj {x y : List UInt8} (hx : x.length = 8) (hy : y.length = 8) (h : kl Try.prog x = kl Try.prog y) : x = y := by
  have h1 := kl_key hx
  have h2 := kl_key hy
  rw [h] at h1
  exact idV_inj (id_keyed.inj h1 h2)
/-- an element as it is -/
def heldE (v : Value) : Option (DataW Value × List MemPlace) := some (.held v, [])
theorem heldE_inv {v z : Value} {ps : List MemPlace} (h : heldE v = some (.held z, ps)) : v = z := by
  simp only [heldE, Option.some.injEq, Prod.mk.injEq, DataW.held.injEq] at h
  exact h.1

/-- block b is a map of at most n entries: these keys and what stands at them -/
def Mp (w : World) (b n : Nat) (l : List (List UInt8 × Value)) : Prop :=
  ∃ D, w.ownsMap Try.prog 26 heldE b n D ∧ (∀ x, x.length = 8 → x ∉ l.map (·.1) → Maps.has D (kl Try.prog x) = false) ∧ ∀ p ∈ l, p.1.length = 8 ∧ Maps.has D (kl Try.prog p.1) = true ∧ ∀ z, D.atKey (kl Try.prog p.1) z = .held p.2
theorem Mp.new (w : World) : Mp (w.alloc (.map #[] 0)) w.heap.size 0 [] :=
  ⟨_, World.ownsMap_made w Try.prog 26 heldE, fun _ _ _ => rfl, fun p hp => by simp at hp⟩
theorem Mp.lt {w : World} {b n : Nat} {l : List (List UInt8 × Value)} (h : Mp w b n l) : b < w.heap.size := by
  obtain ⟨D, h, _⟩ := h
  exact h.lt
theorem Mp.kept {p : Nat → Prop} {w w' : World} {b n : Nat} {l : List (List UInt8 × Value)} (h : Mp w b n l) (hk : Kept p w w') (hp : p b) : Mp w' b n l := by
  obtain ⟨D, h, h2⟩ := h
  have hlt := h.lt
  obtain ⟨es, clock, hb, F, hs, hD⟩ := h
  exact ⟨D, ⟨es, clock, (hk.block b hlt hp).trans hb, F, hs, hD⟩, h2⟩
theorem Mp.below {w w' : World} {b n : Nat} {l : List (List UInt8 × Value)} (h : Mp w b n l) (hb : Below w.heap.size w w') : Mp w' b n l := h.kept (Kept.of_below (p := fun _ => True) hb) trivial
theorem Mp.miss {w : World} {b n : Nat} {l : List (List UInt8 × Value)} (h : Mp w b n l) {t e : TypeId} (ht : Try.prog.underlying t = some (.map 26 e)) {z : Value} (hz : (zeroValue e).run Try.prog w = .ok z w) {x : List UInt8} (hx : x.length = 8) (hn : x ∉ l.map (·.1)) :
    (Instr.lookup t (.map (some b)) (.agg (x.map B).toArray) true).run Try.prog w = .ok (.tuple #[z, .bool false]) w := by
  obtain ⟨D, h, h1, h2⟩ := h
  obtain ⟨v, ps, hr, hv⟩ := h.look_ok id_keyed ht hz (zd := .held z) (zp := []) rfl (kl_key hx)
  rw [h1 x hx hn] at hr
  rw [Maps.atKey_of_not_has (h1 x hx hn)] at hv
  rw [hr, heldE_inv hv]
theorem Mp.hit {w : World} {b n : Nat} {l : List (List UInt8 × Value)} (h : Mp w b n l) {t e : TypeId} (ht : Try.prog.underlying t = some (.map 26 e)) {z : Value} (hz : (zeroValue e).run Try.prog w = .ok z w) {p : List UInt8 × Value} (hp : p ∈ l) :
    (Instr.lookup t (.map (some b)) (.agg (p.1.map B).toArray) true).run Try.prog w = .ok (.tuple #[p.2, .bool true]) w := by
  obtain ⟨D, h, h1, h2⟩ := h
  obtain ⟨hx, h3, h4⟩ := h2 p hp
  obtain ⟨v, ps, hr, hv⟩ := h.look_ok id_keyed ht hz (zd := .held z) (zp := []) rfl (kl_key hx)
  rw [h3] at hr
  rw [h4] at hv
  rw [hr, heldE_inv hv]
theorem Mp.put {w : World} {b n : Nat} {l : List (List UInt8 × Value)} (h : Mp w b n l) {t e : TypeId} (ht : Try.prog.underlying t = some (.map 26 e)) {x : List UInt8} (hx : x.length = 8) (hn : x ∉ l.map (·.1)) (hm : n < 1000) (v : Value) :
    ∃ w', (Instr.mapUpdate t (.map (some b)) (.agg (x.map B).toArray) v).run Try.prog w = .ok () w' ∧ Mp w' b (n + 1) (l ++ [(x, v)]) ∧ w.grownBy w' (some b) := by
  obtain ⟨D, h, h1, h2⟩ := h
  have hI := h.isMap
  obtain ⟨w', hr, ho, hg⟩ := h.update id_keyed ht (by unfold maxLen; omega) (d := .held v) (ps := []) (kl_key hx) rfl
  refine ⟨w', hr, ⟨_, ho, fun y hy hny => ?_, fun p hp => ?_⟩, hg⟩
  · rw [List.map_append, List.mem_append, not_or] at hny
    have hne : y ≠ x := fun e => hny.2 (by simp [e])
    rw [Maps.has_put_other (fun e => hne (kl_inj hy hx e))]
    exact h1 y hy hny.1
  · rcases List.mem_append.1 hp with hp | hp
    · obtain ⟨q1, q2, q3⟩ := h2 p hp
      have hne : p.1 ≠ x := fun e => hn (by rw [← e]; exact List.mem_map_of_mem hp)
      have hk : kl Try.prog p.1 ≠ kl Try.prog x := fun e => hne (kl_inj q1 hx e)
      exact ⟨q1, by rw [Maps.has_put_other hk]; exact q2, fun z => by rw [Maps.atKey_put_other hk]; exact q3 z⟩
    · obtain rfl : p = (x, v) := by simpa using hp
      exact ⟨hx, Maps.has_put_same hI (id_keyed.key (kl_key hx)) _, fun z => Maps.atKey_put_same hI (id_keyed.key (kl_key hx)) _ z⟩
end Go.Proofs.Ytkhejelmjkpgfaa

namespace Go.Proofs.Ytkhejelmjkpgfaa
namespace Hf

/-- weights and lengths -/
abbrev Ps := List (Nat × Nat)
def cost (P : Ps) : Nat := (P.map fun x => x.1 * x.2).sum
def kr (B : Nat) (P : Ps) : Nat := (P.map fun x => 2 ^ (B - x.2)).sum
theorem cost_cons (x : Nat × Nat) (P : Ps) : cost (x :: P) = x.1 * x.2 + cost P := by simp [cost]
theorem kr_cons (B : Nat) (x : Nat × Nat) (P : Ps) : kr B (x :: P) = 2 ^ (B - x.2) + kr B P := by simp [kr]
theorem cost_perm {P Q : Ps} (h : P.Perm Q) : cost P = cost Q := (h.map _).sum_nat
theorem kr_perm {B : Nat} {P Q : Ps} (h : P.Perm Q) : kr B P = kr B Q := (h.map _).sum_nat
/-- what making all heaps one costs: always two of the least weight -/
def HC (ws : List Nat) (k : Nat) : Prop := ∀ M : List Nat → Nat → Prop, (∀ w, M [w] 0) → (∀ ws R a b k, ws.Perm (a :: b :: R) → a ≤ b → (∀ c ∈ R, b ≤ c) → M ((a + b) :: R) k → M ws (k + (a + b))) → M ws k
theorem HC.one (w : Nat) : HC [w] 0 := fun _ h1 _ => h1 w
theorem HC.step {ws R : List Nat} {a b k : Nat} (hp : ws.Perm (a :: b :: R)) (hab : a ≤ b) (hR : ∀ c ∈ R, b ≤ c) (h : HC ((a + b) :: R) k) : HC ws (k + (a + b)) :=
  fun M h1 h2 => h2 _ _ _ _ _ hp hab hR (h M h1 h2)
theorem HC.ind {M : ∀ ws k, HC ws k → Prop} (one : ∀ w, M [w] 0 (HC.one w))
    (step : ∀ {ws R : List Nat} {a b k : Nat} (hp : ws.Perm (a :: b :: R)) (hab : a ≤ b) (hR : ∀ c ∈ R, b ≤ c) (h : HC ((a + b) :: R) k) (_ : M _ _ h), M ws (k + (a + b)) (HC.step hp hab hR h))
    {ws : List Nat} {k : Nat} (h : HC ws k) : M ws k h := by
  obtain ⟨_, e⟩ := h (fun ws k => ∃ h : HC ws k, M ws k h) (fun w => ⟨.one w, one w⟩) (fun _ _ _ _ _ hp hab hR ⟨h, e⟩ => ⟨.step hp hab hR h, step hp hab hR h e⟩)
  exact e

theorem split {P : Ps} {a : Nat} {R : List Nat} (h : (P.map (·.1)).Perm (a :: R)) : ∃ x Q, P.Perm ((a, x) :: Q) ∧ (Q.map (·.1)).Perm R := by
  have hm : a ∈ P.map (·.1) := h.mem_iff.2 List.mem_cons_self
  obtain ⟨⟨a', x⟩, hx, rfl⟩ := List.mem_map.1 hm
  have hp := List.perm_cons_erase hx
  refine ⟨x, P.erase (a', x), hp, ?_⟩
  have := (hp.map (·.1)).symm.trans h
  exact List.Perm.cons_inv this
theorem split2 {P : Ps} {N : Nat} (h : N ∈ P.map (·.2)) : ∃ c Q, P.Perm ((c, N) :: Q) := by
  obtain ⟨⟨c, N'⟩, hx, rfl⟩ := List.mem_map.1 h
  exact ⟨c, _, List.perm_cons_erase hx⟩
theorem max_of : ∀ (l : List Nat), l ≠ [] → ∃ N, N ∈ l ∧ ∀ n ∈ l, n ≤ N
  | [], h => absurd rfl h
  | [n], _ => ⟨n, List.mem_cons_self, fun m hm => by rw [List.mem_singleton.1 hm]; exact Nat.le_refl _⟩
  | n :: m :: l, _ => by
    obtain ⟨N, h1, h2⟩ := max_of (m :: l) (by simp)
    by_cases h : n ≤ N
    · refine ⟨N, List.mem_cons_of_mem _ h1, fun k hk => ?_⟩
      rcases List.mem_cons.1 hk with rfl | hk
      · exact h
      · exact h2 k hk
    · refine ⟨n, List.mem_cons_self, fun k hk => ?_⟩
      rcases List.mem_cons.1 hk with rfl | hk
      · exact Nat.le_refl _
      · have := h2 k hk
        omega
theorem kr_dvd {B N : Nat} (hN : N + 1 ≤ B + 1) {P : Ps} (h : ∀ x ∈ P, x.2 < N) : 2 ^ (B - N + 1) ∣ kr B P := by
  induction P with
  | nil => exact Nat.dvd_zero _
  | cons x P ih =>
    rw [kr_cons]
    have hx := h x List.mem_cons_self
    exact Nat.dvd_add (Nat.pow_dvd_pow 2 (by omega)) (ih fun y hy => h y (List.mem_cons_of_mem _ hy))
theorem fill {S e D T : Nat} (h1 : D ∣ S) (h2 : D ∣ T) (he : 0 < e) (h : S + e ≤ T) : S + D ≤ T := by
  obtain ⟨s, rfl⟩ := h1
  obtain ⟨t, rfl⟩ := h2
  have hlt : s < t := by
    apply Classical.byContradiction
    intro hn
    have := Nat.mul_le_mul_left D (show t ≤ s by omega)
    omega
  have := Nat.mul_le_mul_left D (show s + 1 ≤ t by omega)
  rw [Nat.mul_add, Nat.mul_one] at this
  exact this
theorem kr_zero {B : Nat} {P : Ps} (h : ∀ x ∈ P, x.2 ≤ 0) : kr B P = P.length * 2 ^ B := by
  induction P with
  | nil => simp [kr]
  | cons x P ih =>
    have hx := h x List.mem_cons_self
    rw [kr_cons, ih fun y hy => h y (List.mem_cons_of_mem _ hy), show x.2 = 0 from by omega, List.length_cons, Nat.succ_mul, Nat.sub_zero]
    omega
/-- the greatest length may be taken to be there twice -/
theorem level (B S : Nat) (P : Ps) (hS : (P.map (·.2)).sum = S) (hl : 2 ≤ P.length) (hB : ∀ x ∈ P, x.2 ≤ B) (hk : kr B P ≤ 2 ^ B) :
    ∃ P' N c d Q, (P'.map (·.1)).Perm (P.map (·.1)) ∧ cost P' ≤ cost P ∧ kr B P' ≤ 2 ^ B ∧ (∀ x ∈ P', x.2 ≤ N) ∧ 1 ≤ N ∧ N ≤ B ∧ P'.Perm ((c, N) :: (d, N) :: Q) := by
  induction S using Nat.strongRecOn generalizing P with
  | ind S ih =>
    obtain ⟨N, hN1, hN2⟩ := max_of (P.map (·.2)) (by intro e; rw [List.map_eq_nil_iff] at e; rw [e] at hl; simp at hl)
    have hle : ∀ x ∈ P, x.2 ≤ N := fun x hx => hN2 _ (List.mem_map_of_mem hx)
    have hNB : N ≤ B := by
      obtain ⟨x, hx, rfl⟩ := List.mem_map.1 hN1
      exact hB x hx
    have h1 : 1 ≤ N := by
      apply Classical.byContradiction
      intro h0
      have := kr_zero (B := B) (P := P) fun x hx => by have := hle x hx; omega
      rw [this] at hk
      have h3 := Nat.mul_le_mul_right (2 ^ B) hl
      have h4 := Nat.two_pow_pos B
      omega
    obtain ⟨c, Q, hp⟩ := split2 hN1
    have hQle : ∀ x ∈ Q, x.2 ≤ N := fun x hx => hle x (hp.mem_iff.2 (List.mem_cons_of_mem _ hx))
    by_cases hQ : N ∈ Q.map (·.2)
    · obtain ⟨d, R, hq⟩ := split2 hQ
      exact ⟨P, N, c, d, R, .refl _, Nat.le_refl _, hk, hle, h1, hNB, hp.trans (hq.cons _)⟩
    · have hlt : ∀ x ∈ Q, x.2 < N := fun x hx => by
        have h2 := hQle x hx
        have h3 : x.2 ≠ N := fun e => hQ (e ▸ List.mem_map_of_mem hx)
        omega
      have hd := kr_dvd (B := B) (N := N) (by omega) hlt
      have e1 : kr B P = 2 ^ (B - N) + kr B Q := by rw [kr_perm hp, kr_cons]
      have e2 : kr B ((c, N - 1) :: Q) = 2 ^ (B - N + 1) + kr B Q := by
        rw [kr_cons]
        show 2 ^ (B - (N - 1)) + _ = _
        rw [show B - (N - 1) = B - N + 1 from by omega]
      have hk' : kr B ((c, N - 1) :: Q) ≤ 2 ^ B := by
        rw [e2]
        have := fill hd (Nat.pow_dvd_pow 2 (show B - N + 1 ≤ B by omega)) (Nat.two_pow_pos (B - N)) (by omega)
        omega
      have hsum : (((c, N - 1) :: Q : Ps).map (·.2)).sum < S := by
        have := (hp.map (·.2)).sum_nat
        rw [hS] at this
        simp only [List.map_cons, List.sum_cons] at this ⊢
        omega
      have hlen : 2 ≤ ((c, N - 1) :: Q : Ps).length := by
        have := hp.length_eq
        rw [List.length_cons] at this ⊢
        omega
      obtain ⟨P', N', c', d', Q', i1, i2, i3, i4, i5, i6, i7⟩ := ih _ hsum ((c, N - 1) :: Q) rfl hlen (fun x hx => by
        rcases List.mem_cons.1 hx with rfl | hx
        · show N - 1 ≤ B
          omega
        · have := hlt x hx
          omega) hk'
      refine ⟨P', N', c', d', Q', ?_, ?_, i3, i4, i5, i6, i7⟩
      · exact i1.trans (hp.map (·.1)).symm
      · have h5 : cost ((c, N - 1) :: Q) ≤ cost P := by
          rw [cost_perm hp, cost_cons, cost_cons]
          have := Nat.mul_le_mul_left c (show N - 1 ≤ N by omega)
          exact Nat.add_le_add_right this _
        omega
/-- the least weight may be taken to have the greatest length -/
theorem swap {B a x N : Nat} {R : Ps} (ha : ∀ y ∈ R, a ≤ y.1) (hx : x ≤ N) (hN : x = N ∨ N ∈ R.map (·.2)) :
    ∃ R', (R'.map (·.1)).Perm (R.map (·.1)) ∧ (N :: R'.map (·.2)).Perm (x :: R.map (·.2)) ∧ cost ((a, N) :: R') ≤ cost ((a, x) :: R) ∧ kr B ((a, N) :: R') = kr B ((a, x) :: R) := by
  by_cases e : x = N
  · subst e
    exact ⟨R, .refl _, .refl _, Nat.le_refl _, rfl⟩
  · obtain ⟨c, Q, hp⟩ := split2 (hN.resolve_left e)
    have hac : a ≤ c := ha (c, N) (hp.mem_iff.2 List.mem_cons_self)
    refine ⟨(c, x) :: Q, (hp.map (·.1)).symm, ?_, ?_, ?_⟩
    · have := (hp.map (·.2)).symm.cons x
      exact (List.Perm.swap _ _ _).trans this
    · rw [cost_cons, cost_cons, cost_cons, cost_perm hp, cost_cons]
      dsimp only
      obtain ⟨u, rfl⟩ := Nat.le.dest hac
      obtain ⟨v, rfl⟩ := Nat.le.dest hx
      simp only [Nat.add_mul, Nat.mul_add]
      omega
    · rw [kr_cons, kr_cons, kr_cons, kr_perm hp, kr_cons]
      dsimp only
      omega
/-- HUFFMAN -/
theorem huff {ws : List Nat} {k : Nat} (h : HC ws k) (B : Nat) : ∀ P : Ps, (P.map (·.1)).Perm ws → (∀ x ∈ P, x.2 ≤ B) → kr B P ≤ 2 ^ B → k ≤ cost P := by
  induction h using HC.ind with
  | one w => exact fun _ _ _ _ => Nat.zero_le _
  | @step ws R a b k hp hab hR _ ih =>
    intro P hP hB hk
    have hl : 2 ≤ P.length := by
      have h1 := hP.length_eq
      have h2 := hp.length_eq
      rw [List.length_map] at h1
      simp only [List.length_cons] at h2
      omega
    obtain ⟨P1, N, c, d, Q, w1, c1, k1, l1, n1, nB, p1⟩ := level B _ P rfl hl hB hk
    obtain ⟨x, R1, q1, r1⟩ := split (w1.trans (hP.trans hp))
    have hR1 : ∀ y ∈ R1, a ≤ y.1 := fun y hy => by
      have hm : y.1 ∈ b :: R := r1.mem_iff.1 (List.mem_map_of_mem hy)
      rcases List.mem_cons.1 hm with e | hm
      · omega
      · have := hR _ hm
        omega
    have hx : x ≤ N := l1 (a, x) (q1.mem_iff.2 List.mem_cons_self)
    have hlen1 : (x :: R1.map (·.2)).Perm (N :: N :: Q.map (·.2)) := by
      have h1 : (P1.map (·.2)).Perm (x :: R1.map (·.2)) := q1.map (·.2)
      have h2 : (P1.map (·.2)).Perm (N :: N :: Q.map (·.2)) := p1.map (·.2)
      exact h1.symm.trans h2
    have hN1 : x = N ∨ N ∈ R1.map (·.2) := by
      have hm : N ∈ x :: R1.map (·.2) := hlen1.mem_iff.2 List.mem_cons_self
      rcases List.mem_cons.1 hm with e | hm
      · exact .inl e.symm
      · exact .inr hm
    obtain ⟨R2, w2, s2, c2, k2⟩ := swap (B := B) hR1 hx hN1
    have hs2 : (R2.map (·.2)).Perm (N :: Q.map (·.2)) := (s2.trans hlen1).cons_inv
    obtain ⟨y, R3, q3, r3⟩ := split (w2.trans r1)
    have hR3 : ∀ z ∈ R3, b ≤ z.1 := fun z hz => hR _ (r3.mem_iff.1 (List.mem_map_of_mem hz))
    have hlen3 : (y :: R3.map (·.2)).Perm (N :: Q.map (·.2)) := by
      have h1 : (R2.map (·.2)).Perm (y :: R3.map (·.2)) := q3.map (·.2)
      exact h1.symm.trans hs2
    have hQ : ∀ n ∈ Q.map (·.2), n ≤ N := fun n hn => by
      obtain ⟨z, hz, rfl⟩ := List.mem_map.1 hn
      exact l1 z (p1.mem_iff.2 (List.mem_cons_of_mem _ (List.mem_cons_of_mem _ hz)))
    have hy : y ≤ N := by
      have hm : y ∈ N :: Q.map (·.2) := hlen3.mem_iff.1 List.mem_cons_self
      rcases List.mem_cons.1 hm with e | hm
      · omega
      · exact hQ y hm
    have hN3 : y = N ∨ N ∈ R3.map (·.2) := by
      have hm : N ∈ y :: R3.map (·.2) := hlen3.mem_iff.2 List.mem_cons_self
      rcases List.mem_cons.1 hm with e | hm
      · exact .inl e.symm
      · exact .inr hm
    obtain ⟨R4, w4, s4, c4, k4⟩ := swap (B := B) hR3 hy hN3
    have hs4 : (R4.map (·.2)).Perm (Q.map (·.2)) := (s4.trans hlen3).cons_inv
    have hR4 : ∀ z ∈ R4, z.2 ≤ N := fun z hz => hQ _ (hs4.mem_iff.1 (List.mem_map_of_mem hz))
    have e2 : 2 ^ (B - (N - 1)) = 2 ^ (B - N) + 2 ^ (B - N) := by
      rw [show B - (N - 1) = B - N + 1 from by omega, Nat.pow_succ]
      omega
    have hcost1 := cost_perm q1
    have hcost3 := cost_perm q3
    have hkr1 := kr_perm (B := B) q1
    have hkr3 := kr_perm (B := B) q3
    simp only [cost_cons, kr_cons] at c2 k2 c4 k4 hcost1 hcost3 hkr1 hkr3
    have := ih ((a + b, N - 1) :: R4) ((w4.trans r3).cons _) (fun z hz => by
      rcases List.mem_cons.1 hz with rfl | hz
      · show N - 1 ≤ B
        omega
      · have := hR4 z hz
        omega) (by rw [kr_cons]; dsimp only; omega)
    rw [cost_cons] at this
    dsimp only at this
    obtain ⟨M, rfl⟩ : ∃ M, N = M + 1 := ⟨N - 1, by omega⟩
    rw [show M + 1 - 1 = M from rfl, Nat.add_mul] at this
    rw [Nat.mul_succ] at c2 c4
    omega
end Hf
end Go.Proofs.Ytkhejelmjkpgfaa

namespace Go.Proofs.Ytkhejelmjkpgfaa
namespace Hf

/-- weights with the lengths that come of making one always two of the least weight -/
def HP (P : Ps) : Prop := ∀ M : Ps → Prop, (∀ w, M [(w, 0)]) → (∀ (P R : Ps) (a b n : Nat), P.Perm ((a, n + 1) :: (b, n + 1) :: R) → a ≤ b → (∀ c ∈ R, b ≤ c.1) → M ((a + b, n) :: R) → M P) → M P
theorem HP.one (w : Nat) : HP [(w, 0)] := fun _ h1 _ => h1 w
theorem HP.step {P R : Ps} {a b n : Nat} (hp : P.Perm ((a, n + 1) :: (b, n + 1) :: R)) (hab : a ≤ b) (hR : ∀ c ∈ R, b ≤ c.1) (h : HP ((a + b, n) :: R)) : HP P :=
  fun M h1 h2 => h2 _ _ _ _ _ hp hab hR (h M h1 h2)
theorem HP.ind {M : ∀ P, HP P → Prop} (one : ∀ w, M [(w, 0)] (HP.one w))
    (step : ∀ {P R : Ps} {a b n : Nat} (hp : P.Perm ((a, n + 1) :: (b, n + 1) :: R)) (hab : a ≤ b) (hR : ∀ c ∈ R, b ≤ c.1) (h : HP ((a + b, n) :: R)) (_ : M _ h), M P (HP.step hp hab hR h))
    {P : Ps} (h : HP P) : M P h := by
  obtain ⟨_, e⟩ := h (fun P => ∃ h : HP P, M P h) (fun w => ⟨.one w, one w⟩) (fun _ _ _ _ _ hp hab hR ⟨h, e⟩ => ⟨.step hp hab hR h, step hp hab hR h e⟩)
  exact e
theorem HP.perm {P Q : Ps} (h : HP P) (hq : Q.Perm P) : HP Q := by
  induction h using HP.ind with
  | one w =>
    obtain rfl := List.perm_singleton.1 hq
    exact .one w
  | step hp hab hR h _ => exact .step (hq.trans hp) hab hR h
theorem HP.hc {P : Ps} (h : HP P) : HC (P.map (·.1)) (cost P) := by
  induction h using HP.ind with
  | one w =>
    have : cost [(w, 0)] = 0 := by simp [cost]
    rw [this]
    exact .one w
  | @step P R a b n hp hab hR h ih =>
    have e : cost P = cost ((a + b, n) :: R) + (a + b) := by
      rw [cost_perm hp]
      simp only [cost_cons, Nat.mul_add, Nat.add_mul]
      omega
    rw [e]
    refine .step (hp.map (·.1)) hab (fun c hc => ?_) ih
    obtain ⟨x, hx, rfl⟩ := List.mem_map.1 hc
    exact hR x hx
theorem HP.least {P Q : Ps} (h : HP P) (hq : (Q.map (·.1)).Perm (P.map (·.1))) (B : Nat) (hB : ∀ x ∈ Q, x.2 ≤ B) (hk : kr B Q ≤ 2 ^ B) : cost P ≤ cost Q := huff h.hc B Q hq hB hk
theorem HP.kraft {P : Ps} (h : HP P) (B : Nat) (hB : ∀ x ∈ P, x.2 ≤ B) : kr B P = 2 ^ B := by
  induction h using HP.ind with
  | one w => simp [kr]
  | @step P R a b n hp hab hR h ih =>
    have h1 : n + 1 ≤ B := hB (a, n + 1) (hp.mem_iff.2 List.mem_cons_self)
    have := ih fun x hx => by
      rcases List.mem_cons.1 hx with rfl | hx
      · show n ≤ B
        omega
      · exact hB x (hp.mem_iff.2 (List.mem_cons_of_mem _ (List.mem_cons_of_mem _ hx)))
    rw [kr_perm hp]
    simp only [kr_cons] at this ⊢
    rw [show B - n = B - (n + 1) + 1 from by omega, Nat.pow_succ] at this
    omega
/-- who is more frequent has no longer code -/
theorem HP.order {P : Ps} (h : HP P) (B : Nat) (hB : ∀ x ∈ P, x.2 ≤ B) {x y : Nat × Nat} {R : Ps} (hp : P.Perm (x :: y :: R)) (hxy : x.1 < y.1) : y.2 ≤ x.2 := by
  apply Classical.byContradiction
  intro hn
  obtain ⟨a, n⟩ := x
  obtain ⟨b, m⟩ := y
  have hab : a < b := hxy
  have hnm : n < m := Nat.lt_of_not_le hn
  have hk := h.kraft B hB
  have hle := h.least (Q := (a, m) :: (b, n) :: R) (hp.map (·.1)).symm B (fun z hz => by
    have h1 : n ≤ B := hB (a, n) (hp.mem_iff.2 List.mem_cons_self)
    have h2 : m ≤ B := hB (b, m) (hp.mem_iff.2 (List.mem_cons_of_mem _ List.mem_cons_self))
    rcases List.mem_cons.1 hz with rfl | hz
    · exact h2
    · rcases List.mem_cons.1 hz with rfl | hz
      · exact h1
      · exact hB z (hp.mem_iff.2 (List.mem_cons_of_mem _ (List.mem_cons_of_mem _ hz)))) (by
    rw [kr_perm hp] at hk
    simp only [kr_cons] at hk ⊢
    omega)
  rw [cost_perm hp] at hle
  simp only [cost_cons] at hle
  obtain ⟨u, rfl⟩ := Nat.le.dest (show a + 1 ≤ b from hab)
  obtain ⟨v, rfl⟩ := Nat.le.dest (show n + 1 ≤ m from hnm)
  simp only [Nat.add_mul, Nat.mul_add, Nat.one_mul, Nat.mul_one] at hle
  have := Nat.zero_le (u * v)
  omega

/-! ### FIBONACCI: a great length wants a great weight -/
def fb : Nat → Nat → Nat → Nat
  | 0, u, _ => u
  | D + 1, u, m => fb D (u + m) (max u m)
theorem fb_mono (D : Nat) {u u' m m' : Nat} (h1 : u ≤ u') (h2 : m ≤ m') : fb D u m ≤ fb D u' m' := by
  induction D generalizing u u' m m' with
  | zero => exact h1
  | succ D ih => exact ih (by omega) (by omega)
theorem HP.fib {P : Ps} (h : HP P) {x : Nat × Nat} {R : Ps} {m : Nat} (hp : P.Perm (x :: R)) (hm : ∀ y ∈ R, m ≤ y.1) : fb x.2 x.1 m ≤ (P.map (·.1)).sum := by
  induction h using HP.ind generalizing x R m with
  | one w =>
    obtain ⟨rfl, rfl⟩ : x = (w, 0) ∧ R = [] := by
      have := List.singleton_perm.1 hp
      exact ⟨by injection this with h1 h2; exact h1.symm, by injection this with h1 h2; exact h2.symm⟩
    simp [fb]
  | @step P S a b n hq hab hS h ih =>
    have hsum : (P.map (·.1)).sum = (((a + b, n) :: S : Ps).map (·.1)).sum := by
      have := (hq.map (·.1)).sum_nat
      simp only [List.map_cons, List.sum_cons] at this ⊢
      omega
    rw [hsum]
    have hpq := hp.symm.trans hq
    have hx : x ∈ (a, n + 1) :: (b, n + 1) :: S := hpq.mem_iff.1 List.mem_cons_self
    rcases List.mem_cons.1 hx with rfl | hx
    · have hR := hpq.cons_inv
      have hb : m ≤ b := hm (b, n + 1) (hR.mem_iff.2 List.mem_cons_self)
      have := ih (.refl _) hS
      refine Nat.le_trans ?_ this
      show fb n (a + m) (max a m) ≤ fb n (a + b) b
      exact fb_mono n (by omega) (by omega)
    · rcases List.mem_cons.1 hx with rfl | hx
      · have hR := (hpq.trans (List.Perm.swap _ _ _)).cons_inv
        have ha : m ≤ a := hm (a, n + 1) (hR.mem_iff.2 List.mem_cons_self)
        have := ih (.refl _) hS
        refine Nat.le_trans ?_ this
        show fb n (b + m) (max b m) ≤ fb n (a + b) b
        exact fb_mono n (by omega) (by omega)
      · have he := List.perm_cons_erase hx
        have h1 : R.Perm ((a, n + 1) :: (b, n + 1) :: S.erase x) := by
          have h2 : ((a, n + 1) :: (b, n + 1) :: S).Perm (x :: (a, n + 1) :: (b, n + 1) :: S.erase x) :=
            ((he.cons _).cons _).trans (((List.Perm.swap _ _ _).cons _).trans (List.Perm.swap _ _ _))
          exact (hpq.trans h2).cons_inv
        refine ih (R := (a + b, n) :: S.erase x) ((he.cons _).trans (List.Perm.swap _ _ _)) fun y hy => ?_
        rcases List.mem_cons.1 hy with rfl | hy
        · have := hm (a, n + 1) (h1.mem_iff.2 List.mem_cons_self)
          show m ≤ a + b
          dsimp only at this
          omega
        · exact hm y (h1.mem_iff.2 (List.mem_cons_of_mem _ (List.mem_cons_of_mem _ hy)))
theorem fb_add (D E u m : Nat) (hu : 1 ≤ u) (h : E ≤ D) : fb E u m ≤ fb D u m := by
  induction D generalizing E u m with
  | zero =>
    obtain rfl : E = 0 := by omega
    exact Nat.le_refl _
  | succ D ih =>
    cases E with
    | zero =>
      refine Nat.le_trans ?_ (ih 0 (u + m) (max u m) (by omega) (Nat.zero_le _))
      show u ≤ u + m
      omega
    | succ E => exact ih E _ _ (by omega) (by omega)
/-- 256 signs of at most 2^20 have lengths of at most 40 -/
theorem HP.bound {P : Ps} (h : HP P) (h1 : ∀ x ∈ P, 1 ≤ x.1) (hs : (P.map (·.1)).sum ≤ 268435456) : ∀ x ∈ P, x.2 ≤ 40 := by
  intro x hx
  apply Classical.byContradiction
  intro hn
  have he := List.perm_cons_erase hx
  have h2 := h.fib (m := 1) he fun y hy => h1 y (List.mem_of_mem_erase hy)
  have h3 := fb_mono x.2 (h1 x hx) (Nat.le_refl 1)
  have h4 := fb_add x.2 41 1 1 (Nat.le_refl 1) (by omega)
  have h5 : fb 41 1 1 = 433494437 := by decide +kernel
  omega
end Hf
end Go.Proofs.Ytkhejelmjkpgfaa

namespace Go.Proofs.Ytkhejelmjkpgfaa
namespace Hf

/-- a heap: its weight, its least sign, who is in it -/
structure Hp where
  w : Nat
  low : Nat
  mem : Nat → Bool
def less (a b : Hp) : Prop := a.w < b.w ∨ (a.w = b.w ∧ a.low < b.low)
theorem less_asymm {a b : Hp} (h : less a b) (h' : less b a) : False := by
  unfold less at h h'
  omega
def join (a b : Hp) : Hp := ⟨a.w + b.w, min a.low b.low, fun i => a.mem i || b.mem i⟩
/-- P19: as long as there is more than one heap the two least are made one; how often each sign's heap was made one -/
def Run (H : List Hp) (L : Nat → Nat) : Prop := ∀ M : List Hp → (Nat → Nat) → Prop, (∀ h, M [h] (fun _ => 0)) →
  (∀ (H R : List Hp) (a b : Hp) (L : Nat → Nat), H.Perm (a :: b :: R) → (∀ c ∈ b :: R, less a c) → (∀ c ∈ R, less b c) → M (join a b :: R) L → M H (fun i => (if a.mem i || b.mem i then 1 else 0) + L i)) → M H L
theorem Run.one (h : Hp) : Run [h] (fun _ => 0) := fun _ h1 _ => h1 h
theorem Run.step {H R : List Hp} {a b : Hp} {L : Nat → Nat} (hp : H.Perm (a :: b :: R)) (ha : ∀ c ∈ b :: R, less a c) (hb : ∀ c ∈ R, less b c) (h : Run (join a b :: R) L) :
    Run H (fun i => (if a.mem i || b.mem i then 1 else 0) + L i) := fun M h1 h2 => h2 _ _ _ _ _ hp ha hb (h M h1 h2)
theorem Run.ind {M : ∀ H L, Run H L → Prop} (one : ∀ h, M [h] (fun _ => 0) (Run.one h))
    (step : ∀ {H R : List Hp} {a b : Hp} {L : Nat → Nat} (hp : H.Perm (a :: b :: R)) (ha : ∀ c ∈ b :: R, less a c) (hb : ∀ c ∈ R, less b c) (h : Run (join a b :: R) L) (_ : M _ _ h),
      M H (fun i => (if a.mem i || b.mem i then 1 else 0) + L i) (Run.step hp ha hb h))
    {H : List Hp} {L : Nat → Nat} (h : Run H L) : M H L h := by
  obtain ⟨_, e⟩ := h (fun H L => ∃ h : Run H L, M H L h) (fun w => ⟨.one w, one w⟩) (fun _ _ _ _ _ hp ha hb ⟨h, e⟩ => ⟨.step hp ha hb h, step hp ha hb h e⟩)
  exact e
theorem least_one {a a' : Hp} {R R' : List Hp} (hp : (a :: R).Perm (a' :: R')) (ha : ∀ c ∈ R, less a c) (ha' : ∀ c ∈ R', less a' c) : a = a' ∧ R.Perm R' := by
  have e : a = a' := by
    apply Classical.byContradiction
    intro hn
    have h1 : a ∈ a' :: R' := hp.mem_iff.1 List.mem_cons_self
    have h2 : a' ∈ a :: R := hp.mem_iff.2 List.mem_cons_self
    rcases List.mem_cons.1 h1 with e | h1
    · exact hn e
    rcases List.mem_cons.1 h2 with e | h2
    · exact hn e.symm
    exact less_asymm (ha a' h2) (ha' a h1)
  subst e
  exact ⟨rfl, hp.cons_inv⟩
/-- there is one answer only, in whatever order heaps are kept -/
theorem Run.once {H H' : List Hp} {L L' : Nat → Nat} (h : Run H L) (hp : H.Perm H') (h' : Run H' L') : L = L' := by
  induction h using Run.ind generalizing H' L' with
  | one x =>
    induction h' using Run.ind with
    | one y => rfl
    | step hq _ _ _ _ =>
      have := (hp.trans hq).length_eq
      simp only [List.length_cons, List.length_nil] at this
      omega
  | @step H R a b L hq ha hb h ih =>
    induction h' using Run.ind with
    | one y =>
      have := (hp.symm.trans hq).length_eq
      simp only [List.length_cons, List.length_nil] at this
      omega
    | @step _ R' a' b' L1 hq' ha' hb' h1 _ =>
      obtain ⟨rfl, e⟩ := least_one (hq.symm.trans (hp.trans hq')) ha ha'
      obtain ⟨rfl, e2⟩ := least_one e hb hb'
      rw [ih (e2.cons _) h1]
theorem Run.perm {H H' : List Hp} {L : Nat → Nat} (h : Run H L) (hp : H'.Perm H) : Run H' L := by
  induction h using Run.ind with
  | one x =>
    obtain rfl := List.perm_singleton.1 hp
    exact .one x
  | step hq ha hb h _ => exact .step (hp.trans hq) ha hb h
/-- heaps whose least sign is in them, and of which no two have a sign together -/
structure Apart (H : List Hp) : Prop where
  low : ∀ h ∈ H, h.mem h.low = true
  two : H.Pairwise fun a b => ∀ i, ¬ (a.mem i = true ∧ b.mem i = true)
theorem Apart.perm {H H' : List Hp} (h : Apart H) (hp : H.Perm H') : Apart H' :=
  ⟨fun x hx => h.low x (hp.mem_iff.2 hx), hp.pairwise h.two fun h i ⟨h1, h2⟩ => h i ⟨h2, h1⟩⟩
theorem Apart.join {R : List Hp} {a b : Hp} (h : Apart (a :: b :: R)) : Apart (join a b :: R) := by
  obtain ⟨h1, h2⟩ := h
  obtain ⟨ha, h2⟩ := List.pairwise_cons.1 h2
  obtain ⟨hb, h2⟩ := List.pairwise_cons.1 h2
  refine ⟨fun x hx => ?_, List.pairwise_cons.2 ⟨fun c hc i ⟨hi, hci⟩ => ?_, h2⟩⟩
  · rcases List.mem_cons.1 hx with rfl | hx
    · have e1 := h1 a List.mem_cons_self
      have e2 := h1 b (List.mem_cons_of_mem _ List.mem_cons_self)
      show (a.mem (min a.low b.low) || b.mem (min a.low b.low)) = true
      rcases Nat.le_total a.low b.low with e | e
      · rw [Nat.min_eq_left e, e1]; rfl
      · rw [Nat.min_eq_right e, e2]; simp
    · exact h1 x (List.mem_cons_of_mem _ (List.mem_cons_of_mem _ hx))
  · have hi : (a.mem i || b.mem i) = true := hi
    rcases Bool.or_eq_true_iff.1 hi with e | e
    · exact ha c (List.mem_cons_of_mem _ hc) i ⟨e, hci⟩
    · exact hb c hc i ⟨e, hci⟩
/-- all signs of a heap have one length -/
theorem Run.same {H : List Hp} {L : Nat → Nat} (h : Run H L) (hA : Apart H) : ∀ x ∈ H, ∀ i, x.mem i = true → L i = L x.low := by
  induction h using Run.ind with
  | one y => exact fun _ _ _ _ => rfl
  | @step H R a b L hp ha hb h ih =>
    have hA' := hA.perm hp
    have hJ := hA'.join
    have key := ih hJ
    intro x hx i hi
    obtain ⟨h1, h2⟩ := hA'
    obtain ⟨p1, h2⟩ := List.pairwise_cons.1 h2
    obtain ⟨p2, _⟩ := List.pairwise_cons.1 h2
    have hab : ∀ i, (a.mem i || b.mem i) = true → L i = L (Hf.join a b).low := fun i hi => key _ List.mem_cons_self i hi
    have e1 := h1 a List.mem_cons_self
    have e2 := h1 b (List.mem_cons_of_mem _ List.mem_cons_self)
    show (if a.mem i || b.mem i then 1 else 0) + L i = (if a.mem x.low || b.mem x.low then 1 else 0) + L x.low
    rcases List.mem_cons.1 (hp.mem_iff.1 hx) with rfl | hx
    · rw [hi, e1, hab i (by rw [hi]; rfl), hab x.low (by rw [e1]; rfl)]
      simp
    rcases List.mem_cons.1 hx with rfl | hx
    · rw [hi, e2, hab i (by rw [hi]; simp), hab x.low (by rw [e2]; simp)]
      simp
    · have n1 : ∀ j, x.mem j = true → (a.mem j || b.mem j) = false := fun j hj => by
        rw [Bool.or_eq_false_iff]
        exact ⟨Bool.eq_false_iff.2 fun e => p1 x (List.mem_cons_of_mem _ hx) j ⟨e, hj⟩, Bool.eq_false_iff.2 fun e => p2 x hx j ⟨e, hj⟩⟩
      rw [n1 i hi, n1 x.low (h1 x (List.mem_cons_of_mem _ (List.mem_cons_of_mem _ hx))), key x (List.mem_cons_of_mem _ hx) i hi]
theorem Run.hp {H : List Hp} {L : Nat → Nat} (h : Run H L) (hA : Apart H) : HP (H.map fun x => (x.w, L x.low)) := by
  induction h using Run.ind with
  | one y => exact .one _
  | @step H R a b L hp ha hb h ih =>
    have hA' := hA.perm hp
    have hJ := hA'.join
    have hsame := h.same hJ
    have key : HP ((a.w + b.w, L (Hf.join a b).low) :: R.map fun x => (x.w, L x.low)) := ih hJ
    obtain ⟨h1, h2⟩ := hA'
    obtain ⟨p1, h2⟩ := List.pairwise_cons.1 h2
    obtain ⟨p2, _⟩ := List.pairwise_cons.1 h2
    have e1 := h1 a List.mem_cons_self
    have e2 := h1 b (List.mem_cons_of_mem _ List.mem_cons_self)
    have la : L a.low = L (Hf.join a b).low := hsame _ List.mem_cons_self _ (by show (a.mem a.low || b.mem a.low) = true; rw [e1]; rfl)
    have lb : L b.low = L (Hf.join a b).low := hsame _ List.mem_cons_self _ (by show (a.mem b.low || b.mem b.low) = true; rw [e2]; simp)
    have hRm : (R.map fun x => (x.w, (if a.mem x.low || b.mem x.low then 1 else 0) + L x.low)) = R.map fun x => (x.w, L x.low) := by
      refine List.map_congr_left fun x hx => ?_
      have hxl := h1 x (List.mem_cons_of_mem _ (List.mem_cons_of_mem _ hx))
      have : (a.mem x.low || b.mem x.low) = false := by
        rw [Bool.or_eq_false_iff]
        exact ⟨Bool.eq_false_iff.2 fun e => p1 x (List.mem_cons_of_mem _ hx) _ ⟨e, hxl⟩, Bool.eq_false_iff.2 fun e => p2 x hx _ ⟨e, hxl⟩⟩
      rw [this]
      simp
    refine HP.step (a := a.w) (b := b.w) (n := L (Hf.join a b).low) (R := R.map fun x : Hp => (x.w, L x.low)) ?_ ?_ ?_ key
    · refine (hp.map _).trans ?_
      rw [List.map_cons, List.map_cons, hRm]
      dsimp only
      rw [e1, e2, la, lb]
      simp [Nat.add_comm]
    · have := ha b List.mem_cons_self
      unfold less at this
      omega
    · intro c hc
      obtain ⟨x, hx, rfl⟩ := List.mem_map.1 hc
      have := hb x hx
      unfold less at this
      show b.w ≤ x.w
      omega
end Hf
end Go.Proofs.Ytkhejelmjkpgfaa

namespace Go.Proofs.Ytkhejelmjkpgfaa
namespace Hf

/-- a heap of signs, with the value that its list of signs is -/
structure G where
  wt : Nat
  low : Nat
  sg : List Nat
  sv : Value
def G.z : G := ⟨0, 0, [], .slice none 0 0⟩
def ltG (a b : G) : Bool := decide (a.wt < b.wt ∨ (a.wt = b.wt ∧ a.low < b.low))
theorem ltG_iff {a b : G} : ltG a b = true ↔ (a.wt < b.wt ∨ (a.wt = b.wt ∧ a.low < b.low)) := by unfold ltG; exact decide_eq_true_iff
theorem ltG_not {a b : G} : ltG a b = false ↔ (b.wt < a.wt ∨ (b.wt = a.wt ∧ b.low ≤ a.low)) := by
  rw [← Bool.not_eq_true, ltG_iff]
  omega
theorem ge_trans {a b c : G} (h1 : ltG b a = false) (h2 : ltG c b = false) : ltG c a = false := by
  rw [ltG_not] at *
  omega
theorem lt_ge {a b : G} (h : ltG a b = true) : ltG b a = false := by
  rw [ltG_iff] at h
  rw [ltG_not]
  omega
theorem ge_refl (a : G) : ltG a a = false := by rw [ltG_not]; omega
def nth (l : List G) (i : Nat) : G := l.getD i G.z
theorem nth_get {l : List G} {i : Nat} (h : i < l.length) : nth l i = l[i] := by
  unfold nth
  rw [List.getD_eq_getElem?_getD, List.getElem?_eq_getElem h]
  rfl
theorem nth_mem {l : List G} {i : Nat} (h : i < l.length) : nth l i ∈ l := by
  rw [nth_get h]
  exact List.getElem_mem h
theorem nth_set {l : List G} {i j : Nat} {x : G} (hi : i < l.length) : nth (l.set i x) j = if i = j then x else nth l j := by
  unfold nth
  rw [List.getD_eq_getElem?_getD, List.getD_eq_getElem?_getD, List.getElem?_set]
  by_cases h : i = j
  · rw [if_pos h, if_pos h, if_pos (by omega)]
    rfl
  · rw [if_neg h, if_neg h]
def swp (l : List G) (i j : Nat) : List G := (l.set i (nth l j)).set j (nth l i)
theorem swp_length (l : List G) (i j : Nat) : (swp l i j).length = l.length := by simp [swp]
theorem nth_swp {l : List G} {i j k : Nat} (hi : i < l.length) (hj : j < l.length) : nth (swp l i j) k = if j = k then nth l i else if i = k then nth l j else nth l k := by
  unfold swp
  rw [nth_set (by simpa using hj), nth_set hi]
theorem swp_perm {l : List G} {i j : Nat} (hi : i < l.length) (hj : j < l.length) : (swp l i j).Perm l := by
  have := Array.swap_perm (xs := l.toArray) (i := i) (j := j) (by simpa using hi) (by simpa using hj)
  have h := this.toList
  unfold swp
  rw [nth_get hi, nth_get hj]
  simpa [Array.swap] using h
/-- each is not before the one above it -/
def Ord (l : List G) : Prop := ∀ i, 0 < i → i < l.length → ltG (nth l i) (nth l ((i - 1) / 2)) = false
/-- so, but for the one at p, which may be before those above it -/
structure Up (l : List G) (p : Nat) : Prop where
  other : ∀ i, 0 < i → i < l.length → i ≠ p → ltG (nth l i) (nth l ((i - 1) / 2)) = false
  kids : ∀ i, 0 < i → i < l.length → (i - 1) / 2 = p → 0 < p → ltG (nth l i) (nth l ((p - 1) / 2)) = false
theorem Up.done {l : List G} {p : Nat} (h : Up l p) (hp : p = 0 ∨ ltG (nth l p) (nth l ((p - 1) / 2)) = false) : Ord l := by
  intro i h0 hi
  by_cases e : i = p
  · subst e
    rcases hp with hp | hp
    · omega
    · exact hp
  · exact h.other i h0 hi e
theorem Up.step {l : List G} {p : Nat} (h : Up l p) (hp : 0 < p) (hl : p < l.length) (hlt : ltG (nth l p) (nth l ((p - 1) / 2)) = true) : Up (swp l p ((p - 1) / 2)) ((p - 1) / 2) := by
  have hq : (p - 1) / 2 < l.length := by omega
  have hqp : (p - 1) / 2 < p := by omega
  obtain ⟨q, eq⟩ : ∃ q, q = (p - 1) / 2 := ⟨_, rfl⟩
  rw [← eq] at hlt hq hqp ⊢
  constructor
  · intro i h0 hi hne
    rw [swp_length] at hi
    rw [nth_swp hl hq, nth_swp hl hq]
    by_cases e1 : i = p
    · subst e1
      rw [if_neg (by omega), if_pos rfl, ← eq, if_pos rfl]
      exact lt_ge hlt
    · rw [if_neg (fun e => hne e.symm), if_neg (fun e => e1 e.symm)]
      by_cases e2 : q = (i - 1) / 2
      · rw [if_pos e2]
        have h1 := h.other i h0 hi e1
        rw [← e2] at h1
        exact ge_trans (lt_ge hlt) h1
      · rw [if_neg e2]
        by_cases e3 : p = (i - 1) / 2
        · rw [if_pos e3]
          have := h.kids i h0 hi e3.symm hp
          rw [← eq] at this
          exact this
        · rw [if_neg e3]
          exact h.other i h0 hi e1
  · intro i h0 hi hiq hq0
    rw [swp_length] at hi
    rw [nth_swp hl hq, nth_swp hl hq]
    have hqq := h.other q hq0 hq (by omega)
    rw [if_neg (show q ≠ (q - 1) / 2 by omega), if_neg (show p ≠ (q - 1) / 2 by omega)]
    by_cases e1 : i = p
    · subst e1
      rw [if_neg (by omega), if_pos rfl]
      exact hqq
    · rw [if_neg (by omega), if_neg (fun e => e1 e.symm)]
      have h1 := h.other i h0 hi e1
      rw [hiq] at h1
      exact ge_trans hqq h1
theorem Up.start {l : List G} (h : Ord l) (x : G) : Up (l ++ [x]) l.length := by
  have e : ∀ i, i < l.length → nth (l ++ [x]) i = nth l i := fun i hi => by
    unfold nth
    rw [List.getD_eq_getElem?_getD, List.getD_eq_getElem?_getD, List.getElem?_append_left hi]
  constructor
  · intro i h0 hi hne
    have hi : i < l.length := by simp at hi; omega
    rw [e i hi, e _ (by omega)]
    exact h i h0 hi
  · intro i h0 hi hp _
    simp at hi
    omega
/-- so, but for the one at p, which may be behind those below it -/
structure Dn (l : List G) (p : Nat) : Prop where
  other : ∀ i, 0 < i → i < l.length → (i - 1) / 2 ≠ p → ltG (nth l i) (nth l ((i - 1) / 2)) = false
  kids : ∀ i, 0 < i → i < l.length → (i - 1) / 2 = p → 0 < p → ltG (nth l i) (nth l ((p - 1) / 2)) = false
/-- of the one at p and its kids the first -/
def one (l : List G) (p : Nat) : Nat := if 2 * p + 1 < l.length ∧ ltG (nth l (2 * p + 1)) (nth l p) = true then 2 * p + 1 else p
def least (l : List G) (p : Nat) : Nat := if 2 * p + 2 < l.length ∧ ltG (nth l (2 * p + 2)) (nth l (one l p)) = true then 2 * p + 2 else one l p
theorem one_le {l : List G} {p : Nat} : ltG (nth l p) (nth l (one l p)) = false ∧ (2 * p + 1 < l.length → ltG (nth l (2 * p + 1)) (nth l (one l p)) = false) ∧ (one l p = p ∨ (one l p = 2 * p + 1 ∧ 2 * p + 1 < l.length ∧ ltG (nth l (one l p)) (nth l p) = true)) := by
  unfold one
  by_cases h : 2 * p + 1 < l.length ∧ ltG (nth l (2 * p + 1)) (nth l p) = true
  · rw [if_pos h]
    exact ⟨lt_ge h.2, fun _ => ge_refl _, .inr ⟨rfl, h.1, h.2⟩⟩
  · rw [if_neg h]
    exact ⟨ge_refl _, fun h1 => Bool.eq_false_iff.2 fun e => h ⟨h1, e⟩, .inl rfl⟩
theorem least_le {l : List G} {p : Nat} : ltG (nth l p) (nth l (least l p)) = false ∧ (2 * p + 1 < l.length → ltG (nth l (2 * p + 1)) (nth l (least l p)) = false) ∧ (2 * p + 2 < l.length → ltG (nth l (2 * p + 2)) (nth l (least l p)) = false) ∧
    (least l p = p ∨ ((least l p = 2 * p + 1 ∨ least l p = 2 * p + 2) ∧ least l p < l.length)) := by
  obtain ⟨h1, h2, h3⟩ := one_le (l := l) (p := p)
  unfold least
  by_cases h : 2 * p + 2 < l.length ∧ ltG (nth l (2 * p + 2)) (nth l (one l p)) = true
  · rw [if_pos h]
    have := lt_ge h.2
    exact ⟨ge_trans this h1, fun e => ge_trans this (h2 e), fun _ => ge_refl _, .inr ⟨.inr rfl, h.1⟩⟩
  · rw [if_neg h]
    refine ⟨h1, h2, fun e => Bool.eq_false_iff.2 fun e' => h ⟨e, e'⟩, ?_⟩
    rcases h3 with h3 | ⟨h3, h4, _⟩
    · exact .inl h3
    · exact .inr ⟨.inl h3, by omega⟩
theorem Dn.done {l : List G} {p : Nat} (h : Dn l p) (hp : least l p = p) : Ord l := by
  obtain ⟨_, h1, h2, _⟩ := least_le (l := l) (p := p)
  rw [hp] at h1 h2
  intro i h0 hi
  by_cases e : (i - 1) / 2 = p
  · rw [e]
    rcases (show i = 2 * p + 1 ∨ i = 2 * p + 2 by omega) with rfl | rfl
    · exact h1 hi
    · exact h2 hi
  · exact h.other i h0 hi e
theorem Dn.step {l : List G} {p m : Nat} (h : Dn l p) (hp : p < l.length) (hm : least l p = m) (hne : m ≠ p) : Dn (swp l p m) m ∧ p < m ∧ m < l.length := by
  obtain ⟨h0, h1, h2, h3⟩ := least_le (l := l) (p := p)
  rw [hm] at h0 h1 h2 h3
  obtain ⟨hc, hml⟩ : (m = 2 * p + 1 ∨ m = 2 * p + 2) ∧ m < l.length := by
    rcases h3 with h3 | h3
    · exact absurd h3 hne
    · exact h3
  have hpm : (m - 1) / 2 = p := by omega
  refine ⟨⟨fun i i0 hi hq => ?_, fun i i0 hi hq m0 => ?_⟩, by omega, hml⟩
  · rw [swp_length] at hi
    rw [nth_swp hp hml, nth_swp hp hml]
    rw [if_neg (show m ≠ (i - 1) / 2 from fun e => hq e.symm)]
    by_cases e1 : i = m
    · subst e1
      rw [if_pos rfl, hpm, if_pos rfl]
      exact h0
    · rw [if_neg (fun e => e1 e.symm)]
      by_cases e2 : p = i
      · subst e2
        rw [if_pos rfl, if_neg (show p ≠ (p - 1) / 2 by omega)]
        exact h.kids m (by omega) hml hpm i0
      · rw [if_neg e2]
        by_cases e3 : p = (i - 1) / 2
        · rw [if_pos e3]
          rcases (show i = 2 * p + 1 ∨ i = 2 * p + 2 by omega) with rfl | rfl
          · exact h1 hi
          · exact h2 hi
        · rw [if_neg e3]
          exact h.other i i0 hi (fun e => e3 e.symm)
  · rw [swp_length] at hi
    rw [nth_swp hp hml, nth_swp hp hml, hpm, if_neg hne, if_pos rfl, if_neg (show m ≠ i by omega), if_neg (show p ≠ i by omega)]
    have := h.other i i0 hi (by omega)
    rw [hq] at this
    exact this
theorem nth_dropLast {l : List G} {i : Nat} (h : i < l.length - 1) : nth l.dropLast i = nth l i := by
  rw [nth_get (by simpa using h), nth_get (by omega)]
  simp
/-- the first and the last changed, the last one off -/
theorem Dn.start {l : List G} (h : Ord l) : Dn (swp l 0 (l.length - 1)).dropLast 0 := by
  constructor
  · intro i i0 hi hq
    have hl : i < l.length - 1 := by simpa [swp_length] using hi
    rw [nth_dropLast (by rw [swp_length]; exact hl), nth_dropLast (by rw [swp_length]; omega), nth_swp (by omega) (by omega), nth_swp (by omega) (by omega)]
    rw [if_neg (by omega), if_neg (by omega), if_neg (by omega), if_neg (by omega)]
    exact h i i0 (by omega)
  · intro i _ _ _ h0
    omega
theorem start_perm {l : List G} (h : 0 < l.length) : l.Perm (nth l 0 :: (swp l 0 (l.length - 1)).dropLast) := by
  have hp := swp_perm (l := l) (i := 0) (j := l.length - 1) h (by omega)
  have hne : swp l 0 (l.length - 1) ≠ [] := by
    intro e
    have := swp_length l 0 (l.length - 1)
    rw [e] at this
    simp at this
    omega
  have hl : (swp l 0 (l.length - 1)).getLast hne = nth l 0 := by
    rw [List.getLast_eq_getElem, ← nth_get (by rw [swp_length]; omega), nth_swp h (by omega), swp_length, if_pos rfl]
  have := List.dropLast_concat_getLast hne
  rw [hl] at this
  refine hp.symm.trans ?_
  conv => lhs; rw [← this]
  exact List.perm_append_comm
/-- the first one is before all -/
theorem Ord.first {l : List G} (h : Ord l) : ∀ i, i < l.length → ltG (nth l i) (nth l 0) = false := by
  intro i
  induction i using Nat.strongRecOn with
  | _ i ih =>
    intro hi
    by_cases h0 : i = 0
    · subst h0
      exact ge_refl _
    · exact ge_trans (ih ((i - 1) / 2) (by omega) (by omega)) (h i (by omega) hi)
theorem Ord.first_mem {l : List G} (h : Ord l) : ∀ c ∈ l, ltG c (nth l 0) = false := by
  intro c hc
  obtain ⟨i, hi, rfl⟩ := List.getElem_of_mem hc
  rw [← nth_get hi]
  exact h.first i hi
theorem Ord.nil : Ord [] := fun i _ hi => by simp at hi
end Hf
end Go.Proofs.Ytkhejelmjkpgfaa

namespace Go.Proofs.Ytkhejelmjkpgfaa
namespace Hf

def sumIf (L : List Nat) (g : Nat → Nat) (p : Nat → Bool) : Nat := (L.map fun j => if p j then g j else 0).sum
theorem sumIf_cons (x : Nat) (L : List Nat) (g : Nat → Nat) (p : Nat → Bool) : sumIf (x :: L) g p = (if p x then g x else 0) + sumIf L g p := by simp [sumIf]
theorem sumIf_le {L : List Nat} {g : Nat → Nat} {p q : Nat → Bool} (h : ∀ j ∈ L, p j = true → q j = true) : sumIf L g p ≤ sumIf L g q := by
  induction L with
  | nil => exact Nat.le_refl _
  | cons x L ih =>
    have h1 := ih fun j hj => h j (List.mem_cons_of_mem _ hj)
    have h2 := h x List.mem_cons_self
    rw [sumIf_cons, sumIf_cons]
    by_cases hp : p x = true
    · rw [if_pos hp, if_pos (h2 hp)]
      omega
    · rw [if_neg hp]
      omega
theorem sumIf_more {L : List Nat} {g : Nat → Nat} {p q : Nat → Bool} {i : Nat} (hi : i ∈ L) (h : ∀ j ∈ L, p j = true → q j = true) (hp : p i = false) (hq : q i = true) : sumIf L g p + g i ≤ sumIf L g q := by
  induction L with
  | nil => exact absurd hi (by simp)
  | cons x L ih =>
    rw [sumIf_cons, sumIf_cons]
    by_cases hx : x = i
    · subst hx
      have h1 := sumIf_le (g := g) fun j hj => h j (List.mem_cons_of_mem _ hj)
      rw [if_neg (by rw [hp]; simp), if_pos hq]
      omega
    · have h1 := ih (List.mem_of_ne_of_mem (Ne.symm hx) hi) fun j hj => h j (List.mem_cons_of_mem _ hj)
      have h2 := h x List.mem_cons_self
      by_cases hp : p x = true
      · rw [if_pos hp, if_pos (h2 hp)]
        omega
      · rw [if_neg hp]
        omega
theorem sumIf_mul {L : List Nat} {g g' : Nat → Nat} {p : Nat → Bool} {c : Nat} (h : ∀ j ∈ L, p j = true → g j * c = g' j) : sumIf L g p * c = sumIf L g' p := by
  induction L with
  | nil => simp [sumIf]
  | cons x L ih =>
    rw [sumIf_cons, sumIf_cons, Nat.add_mul, ih fun j hj => h j (List.mem_cons_of_mem _ hj)]
    congr 1
    by_cases hp : p x = true
    · rw [if_pos hp, if_pos hp, h x List.mem_cons_self hp]
    · rw [if_neg hp, if_neg hp, Nat.zero_mul]

/-- does j's code come ahead of i's? -/
def ahead (l : List Nat) (i j : Nat) : Bool := decide (0 < l.getD j 0) && (decide (l.getD j 0 < l.getD i 0) || (decide (l.getD j 0 = l.getD i 0) && decide (j < i)))
def ksum (l : List Nat) : Nat := sumIf (List.range l.length) (fun j => 2 ^ (48 - l.getD j 0)) (fun j => decide (0 < l.getD j 0))
def kof (l : List Nat) (i : Nat) : Nat := sumIf (List.range l.length) (fun j => 2 ^ (48 - l.getD j 0)) (ahead l i)
def code (l : List Nat) (i : Nat) : Nat := sumIf (List.range l.length) (fun j => 2 ^ (l.getD i 0 - l.getD j 0)) (ahead l i)
theorem ahead_le {l : List Nat} {i j : Nat} (h : ahead l i j = true) : 0 < l.getD j 0 ∧ l.getD j 0 ≤ l.getD i 0 := by
  simp [ahead] at h ⊢
  omega
theorem code_kof {l : List Nat} {i : Nat} (h : l.getD i 0 ≤ 48) : code l i * 2 ^ (48 - l.getD i 0) = kof l i := by
  refine sumIf_mul fun j _ hj => ?_
  have := ahead_le hj
  rw [← Nat.pow_add]
  congr 1
  omega
theorem kof_sum {l : List Nat} {i : Nat} (hi : i < l.length) (h0 : 0 < l.getD i 0) : kof l i + 2 ^ (48 - l.getD i 0) ≤ ksum l := by
  refine sumIf_more (g := fun j => 2 ^ (48 - l.getD j 0)) (List.mem_range.2 hi) (fun j _ hj => by simpa using (ahead_le hj).1) ?_ (by simpa using h0)
  simp [ahead]
theorem kof_ahead {l : List Nat} {i j : Nat} (hi : i < l.length) (h : ahead l j i = true) : kof l i + 2 ^ (48 - l.getD i 0) ≤ kof l j := by
  refine sumIf_more (g := fun j => 2 ^ (48 - l.getD j 0)) (List.mem_range.2 hi) (fun k _ hk => ?_) ?_ h
  · simp [ahead] at h hk ⊢
    omega
  · simp [ahead]
theorem ahead_or {l : List Nat} {i j : Nat} (hij : i ≠ j) (hi : 0 < l.getD i 0) (hj : 0 < l.getD j 0) : ahead l j i = true ∨ ahead l i j = true := by
  simp [ahead] at hi hj ⊢
  omega
/-- a code has no more bits than its length -/
theorem code_lt {l : List Nat} {i : Nat} (hi : i < l.length) (h0 : 0 < l.getD i 0) (h48 : l.getD i 0 ≤ 48) (hk : ksum l ≤ 2 ^ 48) : code l i < 2 ^ l.getD i 0 := by
  have h1 := kof_sum hi h0
  rw [← code_kof h48] at h1
  have h2 : (code l i + 1) * 2 ^ (48 - l.getD i 0) ≤ 2 ^ l.getD i 0 * 2 ^ (48 - l.getD i 0) := by
    rw [← Nat.pow_add, show l.getD i 0 + (48 - l.getD i 0) = 48 from by omega, Nat.add_mul, Nat.one_mul]
    omega
  exact Nat.le_of_mul_le_mul_right h2 (Nat.two_pow_pos _)
/-- no code is the beginning of another -/
theorem code_free {l : List Nat} {i j : Nat} (hi : i < l.length) (hj : j < l.length) (hij : i ≠ j) (h0 : 0 < l.getD i 0) (hle : l.getD i 0 ≤ l.getD j 0) (h48 : l.getD j 0 ≤ 48) :
    code l j / 2 ^ (l.getD j 0 - l.getD i 0) ≠ code l i := by
  intro e
  have ki := code_kof (l := l) (i := i) (by omega)
  have kj := code_kof (l := l) (i := j) h48
  have hd := Nat.div_add_mod (code l j) (2 ^ (l.getD j 0 - l.getD i 0))
  have hm := Nat.mod_lt (code l j) (Nat.two_pow_pos (l.getD j 0 - l.getD i 0))
  rw [e] at hd
  have hs : 2 ^ (48 - l.getD i 0) = 2 ^ (l.getD j 0 - l.getD i 0) * 2 ^ (48 - l.getD j 0) := by
    rw [← Nat.pow_add]
    congr 1
    omega
  have hP := Nat.two_pow_pos (48 - l.getD j 0)
  have h1 : kof l i ≤ kof l j := by
    rw [← ki, ← kj, hs, ← Nat.mul_assoc]
    refine Nat.mul_le_mul_right _ ?_
    rw [Nat.mul_comm]
    omega
  have h2 : kof l j < kof l i + 2 ^ (48 - l.getD i 0) := by
    rw [← ki, ← kj, hs, ← Nat.mul_assoc, ← Nat.add_mul]
    refine Nat.mul_lt_mul_of_pos_right ?_ hP
    rw [Nat.mul_comm]
    omega
  rcases ahead_or hij h0 (by omega) with h | h
  · have := kof_ahead hi h
    omega
  · have h3 := kof_ahead hj h
    omega
end Hf
end Go.Proofs.Ytkhejelmjkpgfaa

namespace Go.Proofs.Ytkhejelmjkpgfaa
namespace Hf

theorem sumIf_append (L M : List Nat) (g : Nat → Nat) (p : Nat → Bool) : sumIf (L ++ M) g p = sumIf L g p + sumIf M g p := by simp [sumIf]
theorem sumIf_succ (n : Nat) (g : Nat → Nat) (p : Nat → Bool) : sumIf (List.range (n + 1)) g p = sumIf (List.range n) g p + if p n then g n else 0 := by
  rw [List.range_succ, sumIf_append]
  simp [sumIf]
theorem sumIf_congr {L : List Nat} {g : Nat → Nat} {p q : Nat → Bool} (h : ∀ j ∈ L, p j = q j) : sumIf L g p = sumIf L g q := by
  unfold sumIf
  congr 1
  exact List.map_congr_left fun j hj => by rw [h j hj]
theorem sumIf_none {L : List Nat} {g : Nat → Nat} {p : Nat → Bool} (h : ∀ j ∈ L, p j = false) : sumIf L g p = 0 := by
  induction L with
  | nil => rfl
  | cons x L ih => rw [sumIf_cons, h x List.mem_cons_self, ih fun j hj => h j (List.mem_cons_of_mem _ hj)]; rfl
theorem sumIf_one {n i : Nat} {g : Nat → Nat} {p q : Nat → Bool} (hi : i < n) (h : ∀ j, j < n → j ≠ i → p j = q j) (hp : p i = false) (hq : q i = true) : sumIf (List.range n) g q = sumIf (List.range n) g p + g i := by
  induction n with
  | zero => omega
  | succ n ih =>
    rw [sumIf_succ, sumIf_succ]
    by_cases e : i = n
    · subst e
      rw [hp, hq, sumIf_congr (q := q) fun j hj => h j (by have := List.mem_range.1 hj; omega) (by have := List.mem_range.1 hj; omega)]
      simp
    · rw [ih (by omega) fun j hj => h j (by omega), h n (by omega) (fun e' => e e'.symm)]
      omega
/-- what the next code of b bits is, when k signs have been looked at -/
def nxt (l : List Nat) (b k : Nat) : Nat := sumIf (List.range l.length) (fun j => 2 ^ (b - l.getD j 0)) (fun j => decide (0 < l.getD j 0) && (decide (l.getD j 0 < b) || (decide (l.getD j 0 = b) && decide (j < k))))
theorem code_nxt (l : List Nat) (i : Nat) : code l i = nxt l (l.getD i 0) i := rfl
theorem nxt_zero (l : List Nat) (k : Nat) : nxt l 0 k = 0 := sumIf_none fun j _ => by simp; omega
theorem nxt_double (l : List Nat) (b : Nat) : nxt l (b + 1) 0 = nxt l b l.length * 2 := by
  unfold nxt
  rw [sumIf_congr (q := fun j => decide (0 < l.getD j 0) && (decide (l.getD j 0 < b) || (decide (l.getD j 0 = b) && decide (j < l.length)))) fun j hj => ?_]
  · refine (sumIf_mul fun j _ hj => ?_).symm
    rw [← Nat.pow_succ]
    congr 1
    simp at hj ⊢
    omega
  · have := List.mem_range.1 hj
    rw [Bool.eq_iff_iff]
    simp
    omega
theorem nxt_hit {l : List Nat} {b k : Nat} (hk : k < l.length) (hb : 0 < b) (h : l.getD k 0 = b) : nxt l b (k + 1) = nxt l b k + 1 := by
  have := sumIf_one (n := l.length) (i := k) (g := fun j => 2 ^ (b - l.getD j 0)) (p := fun j => decide (0 < l.getD j 0) && (decide (l.getD j 0 < b) || (decide (l.getD j 0 = b) && decide (j < k))))
    (q := fun j => decide (0 < l.getD j 0) && (decide (l.getD j 0 < b) || (decide (l.getD j 0 = b) && decide (j < k + 1)))) hk (fun j _ hj => by rw [Bool.eq_iff_iff]; simp; omega) (by rw [h]; simp) (by rw [h]; simp; omega)
  unfold nxt
  rw [this, h, Nat.sub_self]
theorem nxt_miss {l : List Nat} {b k : Nat} (h : l.getD k 0 ≠ b) : nxt l b (k + 1) = nxt l b k := by
  refine sumIf_congr fun j _ => ?_
  by_cases e : j = k
  · subst e
    simp at h ⊢
    simp [h]
  · rw [Bool.eq_iff_iff]
    simp
    omega
theorem nxt_le {l : List Nat} {b k : Nat} (hb : b ≤ 48) (h : ksum l ≤ 2 ^ 48) : nxt l b k ≤ 2 ^ b := by
  have h1 : nxt l b k * 2 ^ (48 - b) = sumIf (List.range l.length) (fun j => 2 ^ (48 - l.getD j 0)) (fun j => decide (0 < l.getD j 0) && (decide (l.getD j 0 < b) || (decide (l.getD j 0 = b) && decide (j < k)))) :=
    sumIf_mul fun j _ hj => by
      rw [← Nat.pow_add]
      congr 1
      simp at hj ⊢
      omega
  have h2 : sumIf (List.range l.length) (fun j => 2 ^ (48 - l.getD j 0)) (fun j => decide (0 < l.getD j 0) && (decide (l.getD j 0 < b) || (decide (l.getD j 0 = b) && decide (j < k)))) ≤ ksum l :=
    sumIf_le fun j _ hj => by
      simp at hj ⊢
      omega
  have h3 : nxt l b k * 2 ^ (48 - b) ≤ 2 ^ b * 2 ^ (48 - b) := by
    rw [← Nat.pow_add, show b + (48 - b) = 48 from by omega]
    omega
  exact Nat.le_of_mul_le_mul_right h3 (Nat.two_pow_pos _)
theorem nxt_bound {l : List Nat} {b k : Nat} (hb : b ≤ 48) (h : ksum l ≤ 2 ^ 48) : nxt l b k ≤ 281474976710656 :=
  Nat.le_trans (nxt_le hb h) (Nat.le_trans (Nat.pow_le_pow_right (by omega) hb) (by decide))
/-- the codes that are given when those below b bits are, and of those of b bits the ones of the first k signs -/
def given (l : List Nat) (b k : Nat) : List Int := (List.range l.length).map fun i => if 0 < l.getD i 0 ∧ (l.getD i 0 < b ∨ (l.getD i 0 = b ∧ i < k)) then (code l i : Int) else 0
def codes (l : List Nat) : List Int := (List.range l.length).map fun i => (code l i : Int)
theorem code_none {l : List Nat} {i : Nat} (h : l.getD i 0 = 0) : code l i = 0 := by
  rw [code_nxt, h]
  exact nxt_zero _ _
theorem given_start (l : List Nat) : given l 1 0 = List.replicate l.length 0 := by
  refine List.ext_getElem (by simp [given]) fun i h1 h2 => ?_
  simp [given]
  omega
theorem given_next (l : List Nat) (b : Nat) : given l b l.length = given l (b + 1) 0 := by
  refine List.map_congr_left fun i hi => ?_
  have := List.mem_range.1 hi
  have e : (0 < l.getD i 0 ∧ (l.getD i 0 < b ∨ (l.getD i 0 = b ∧ i < l.length))) ↔ (0 < l.getD i 0 ∧ (l.getD i 0 < b + 1 ∨ (l.getD i 0 = b + 1 ∧ i < 0))) := by omega
  by_cases h : 0 < l.getD i 0 ∧ (l.getD i 0 < b ∨ (l.getD i 0 = b ∧ i < l.length))
  · rw [if_pos h, if_pos (e.1 h)]
  · rw [if_neg h, if_neg fun h' => h (e.2 h')]
theorem given_miss {l : List Nat} {b k : Nat} (h : l.getD k 0 ≠ b) : given l b (k + 1) = given l b k := by
  refine List.map_congr_left fun i hi => ?_
  have e : (0 < l.getD i 0 ∧ (l.getD i 0 < b ∨ (l.getD i 0 = b ∧ i < k + 1))) ↔ (0 < l.getD i 0 ∧ (l.getD i 0 < b ∨ (l.getD i 0 = b ∧ i < k))) := by
    by_cases e : i = k
    · subst e; omega
    · omega
  by_cases h : 0 < l.getD i 0 ∧ (l.getD i 0 < b ∨ (l.getD i 0 = b ∧ i < k + 1))
  · rw [if_pos h, if_pos (e.1 h)]
  · rw [if_neg h, if_neg fun h' => h (e.2 h')]
theorem given_hit {l : List Nat} {b k : Nat} (hb : 0 < b) (h : l.getD k 0 = b) : given l b (k + 1) = (given l b k).set k (nxt l b k : Int) := by
  refine List.ext_getElem (by simp [given]) fun i h1 h2 => ?_
  rw [List.getElem_set]
  by_cases e : k = i
  · subst e
    rw [if_pos rfl]
    simp only [given, List.getElem_map, List.getElem_range]
    rw [if_pos (by omega), code_nxt, h]
  · rw [if_neg e]
    simp only [given, List.getElem_map, List.getElem_range]
    have e : (0 < l.getD i 0 ∧ (l.getD i 0 < b ∨ (l.getD i 0 = b ∧ i < k + 1))) ↔ (0 < l.getD i 0 ∧ (l.getD i 0 < b ∨ (l.getD i 0 = b ∧ i < k))) := by omega
    by_cases h : 0 < l.getD i 0 ∧ (l.getD i 0 < b ∨ (l.getD i 0 = b ∧ i < k + 1))
    · rw [if_pos h, if_pos (e.1 h)]
    · rw [if_neg h, if_neg fun h' => h (e.2 h')]
theorem getD_le {l : List Nat} {B : Nat} (h : ∀ n ∈ l, n ≤ B) (i : Nat) : l.getD i 0 ≤ B := by
  rw [List.getD_eq_getElem?_getD]
  cases e : l[i]? with
  | none => exact Nat.zero_le _
  | some x => exact h x (List.mem_of_getElem? e)
theorem given_end {l : List Nat} (h : ∀ n ∈ l, n ≤ 48) : given l 49 0 = codes l := by
  refine List.map_congr_left fun i hi => ?_
  have h48 := getD_le h i
  by_cases h0 : 0 < l.getD i 0
  · rw [if_pos (by omega)]
  · rw [if_neg (by omega), code_none (by omega)]
    rfl
theorem given_length (l : List Nat) (b k : Nat) : (given l b k).length = l.length := by simp [given]
theorem codes_length (l : List Nat) : (codes l).length = l.length := by simp [codes]
/-- the Kraft sum of the first k -/
def kto (l : List Nat) (k : Nat) : Nat := sumIf (List.range k) (fun j => 2 ^ (48 - l.getD j 0)) (fun j => decide (0 < l.getD j 0))
theorem kto_all (l : List Nat) : kto l l.length = ksum l := rfl
theorem kto_succ (l : List Nat) (k : Nat) : kto l (k + 1) = kto l k + if 0 < l.getD k 0 then 2 ^ (48 - l.getD k 0) else 0 := by
  unfold kto
  rw [sumIf_succ]
  simp
theorem kto_le (l : List Nat) (k : Nat) : kto l k ≤ k * 281474976710656 := by
  induction k with
  | zero => simp [kto, sumIf]
  | succ k ih =>
    have h1 : 2 ^ (48 - l.getD k 0) ≤ 281474976710656 := Nat.le_trans (Nat.pow_le_pow_right (by omega) (Nat.sub_le _ _)) (by decide : 2 ^ 48 ≤ 281474976710656)
    have h2 : (if 0 < l.getD k 0 then 2 ^ (48 - l.getD k 0) else 0) ≤ 281474976710656 := by
      by_cases h : 0 < l.getD k 0
      · rw [if_pos h]; exact h1
      · rw [if_neg h]; exact Nat.zero_le _
    rw [kto_succ, Nat.succ_mul]
    exact Nat.add_le_add ih h2
/-- the code of i, of the first k looked at -/
def cto (l : List Nat) (i k : Nat) : Nat := sumIf (List.range k) (fun j => 2 ^ (l.getD i 0 - l.getD j 0)) (ahead l i)
theorem cto_all (l : List Nat) (i : Nat) : cto l i l.length = code l i := rfl
theorem cto_hit {l : List Nat} {i k : Nat} (h : ahead l i k = true) : cto l i (k + 1) = cto l i k + 2 ^ (l.getD i 0 - l.getD k 0) := by
  unfold cto
  rw [sumIf_succ, if_pos h]
theorem cto_miss {l : List Nat} {i k : Nat} (h : ahead l i k = false) : cto l i (k + 1) = cto l i k := by
  unfold cto
  rw [sumIf_succ, h]
  rfl
theorem cto_le {l : List Nat} {i k : Nat} (hk : k ≤ l.length) (h48 : ∀ n ∈ l, n ≤ 48) (h : ksum l ≤ 2 ^ 48) : cto l i k ≤ 281474976710656 := by
  have h1 : cto l i k ≤ code l i := by
    obtain ⟨d, hd⟩ : ∃ d, l.length = k + d := ⟨l.length - k, by omega⟩
    unfold cto code
    rw [hd, List.range_add, sumIf_append]
    omega
  rw [code_nxt] at h1
  exact Nat.le_trans h1 (nxt_bound (getD_le h48 i) h)
/-- codes of the first i, and the part of the i-th's out of the first k -/
def part (l : List Nat) (i k : Nat) : List Int := (List.range l.length).map fun j => if j < i then (code l j : Int) else if j = i then (cto l i k : Int) else 0
theorem part_length (l : List Nat) (i k : Nat) : (part l i k).length = l.length := by simp [part]
theorem part_start (l : List Nat) : part l 0 0 = List.replicate l.length 0 := by
  refine List.ext_getElem (by simp [part]) fun i h1 h2 => ?_
  simp [part, cto, sumIf]
theorem part_next (l : List Nat) (i : Nat) : part l i l.length = part l (i + 1) 0 := by
  refine List.map_congr_left fun j hj => ?_
  by_cases h1 : j < i
  · rw [if_pos h1, if_pos (by omega)]
  · rw [if_neg h1]
    by_cases h2 : j = i
    · subst h2
      rw [if_pos rfl, if_pos (by omega), cto_all]
    · rw [if_neg h2, if_neg (by omega)]
      split
      · simp [cto, sumIf]
      · rfl
theorem part_end (l : List Nat) : part l l.length 0 = codes l := by
  refine List.map_congr_left fun j hj => ?_
  rw [if_pos (List.mem_range.1 hj)]
theorem part_miss {l : List Nat} {i k : Nat} (h : ahead l i k = false) : part l i (k + 1) = part l i k := by
  unfold part
  rw [cto_miss h]
theorem part_get {l : List Nat} {i k : Nat} (hi : i < l.length) : (part l i k)[i]? = some (cto l i k : Int) := by
  simp [part, hi]
theorem part_hit {l : List Nat} {i k : Nat} (h : ahead l i k = true) : part l i (k + 1) = (part l i k).set i ((cto l i k : Int) + (2 ^ (l.getD i 0 - l.getD k 0) : Nat)) := by
  refine List.ext_getElem (by simp [part]) fun j h1 h2 => ?_
  rw [List.getElem_set]
  simp only [part, List.getElem_map, List.getElem_range]
  by_cases e : i = j
  · subst e
    rw [if_neg (by omega), if_pos rfl, if_pos rfl, cto_hit h]
    omega
  · rw [if_neg e]
    by_cases h3 : j < i
    · rw [if_pos h3, if_pos h3]
    · rw [if_neg h3, if_neg h3, if_neg (fun e' => e e'.symm), if_neg (fun e' => e e'.symm)]
/-- is it a list of numbers that signs may have? -/
def sgn (most : Int) (l : List Int) : Bool := decide (1 ≤ l.length ∧ l.length ≤ 256 ∧ ∀ n ∈ l, 0 ≤ n ∧ n ≤ most)
def up (l : List Nat) : List Int := l.map fun n : Nat => (n : Int)
theorem up_length (l : List Nat) : (up l).length = l.length := by simp [up]
theorem up_get (l : List Nat) (j : Nat) (hj : j < (up l).length) : (up l)[j] = ((l.getD j 0 : Nat) : Int) := by
  have : j < l.length := by simpa [up] using hj
  simp [up, List.getD_eq_getElem?_getD, List.getElem?_eq_getElem this]
theorem sgn_up {most : Nat} {l : List Int} (h : sgn most l = true) : ∃ L : List Nat, l = up L ∧ 1 ≤ L.length ∧ L.length ≤ 256 ∧ ∀ n ∈ L, n ≤ most := by
  obtain ⟨h1, h2, h3⟩ := of_decide_eq_true h
  refine ⟨l.map Int.toNat, ?_, by simpa using h1, by simpa using h2, fun n hn => ?_⟩
  · unfold up
    rw [List.map_map]
    conv => lhs; rw [← List.map_id l]
    refine List.map_congr_left fun n hn => ?_
    have := h3 n hn
    show n = ((n.toNat : Nat) : Int)
    omega
  · obtain ⟨m, hm, rfl⟩ := List.mem_map.1 hn
    have := h3 m hm
    omega
end Hf
end Go.Proofs.Ytkhejelmjkpgfaa
