/-
  Rows of bools as they lie in memory; a policy as a value.
-/
import Derived.Test.YtoibiaikbgkbpaaHfEq
import Derived.Test.YtoibiaikbgkbpaaHfCodes
import Derived.Test.YtoibiaikbgkbpaaKpLaws
namespace Go.Proofs.Ytoibiaikbgkbpaa
open Go.RowKit
set_option maxRecDepth 4000

/-- bools that lie in memory -/
structure Bls (w : World) (v : Value) (l : List Bool) : Prop where
  at_ : ((∃ a c, v = .slice a 0 c) ∧ l = []) ∨ ∃ bk o cap, v = .slice (some ⟨bk, o, none⟩) l.length cap ∧ bk < w.heap.size ∧
    ∀ j (hj : j < l.length), w.cell? ⟨bk, o + j, none⟩ = some (.bool l[j])

theorem Bls.slice {w : World} {v : Value} {l : List Bool} (h : Bls w v l) : ∃ a c, v = .slice a l.length c := by
  rcases h.at_ with ⟨⟨a, c, rfl⟩, rfl⟩ | ⟨bk, o, cap, rfl, _⟩
  · exact ⟨_, _, rfl⟩
  · exact ⟨_, _, rfl⟩

theorem Bls.below {w w' : World} {v : Value} {l : List Bool} (h : Bls w v l) {B : Nat} (hB : w.heap.size ≤ B) (hb : Below B w w') : Bls w' v l := by
  rcases h.at_ with h | ⟨bk, o, cap, h1, h3, h4⟩
  · exact ⟨.inl h⟩
  · exact ⟨.inr ⟨bk, o, cap, h1, Nat.lt_of_lt_of_le h3 hb.size, fun j hj => (hb.cell (p := ⟨bk, o + j, none⟩) (Nat.lt_of_lt_of_le h3 hB)).trans (h4 j hj)⟩⟩

theorem Bls.past {w w' : World} {v : Value} {l : List Bool} (h : Bls w v l) (hb : Below w.heap.size w w') : Bls w' v l := h.below (Nat.le_refl _) hb

/-- one of them -/
theorem Bls.get {w : World} {a : Option Addr} {n c : Nat} {l : List Bool} (h : Bls w (.slice a n c) l) (j : Nat) (hj : j < l.length) : ∃ bk o, a = some ⟨bk, o, none⟩ ∧ n = l.length ∧ bk < w.heap.size ∧
    w.cell? ⟨bk, o + j, none⟩ = some (.bool l[j]) := by
  rcases h.at_ with ⟨_, rfl⟩ | ⟨bk, o, cap, h1, h3, h4⟩
  · simp at hj
  · simp at h1
    obtain ⟨rfl, rfl, rfl⟩ := h1
    exact ⟨bk, o, rfl, rfl, h3, h4 j hj⟩

def Tb (b : Bool) : Value := .bool b
theorem info_bool : (Try.prog.info? 4).map (fun i => (i.zero, i.size, i.bytes)) = some (some (.bool false), 1, 1) := by kernel_rfl

theorem Bls.of_own {base : Nat} {w : World} {v : Value} {l : List Bool} (h : w.ownsRow base 4 1 v l.length (l.map Tb)) : Bls w v l := by
  rcases h.2 with ⟨rfl, h0⟩ | ⟨g, cap, cur, rfl, hg, hh, _⟩
  · exact ⟨.inl ⟨⟨_, _, rfl⟩, List.length_eq_zero_iff.1 h0⟩⟩
  · refine ⟨.inr ⟨g, 0, cap, rfl, (Array.getElem?_eq_some_iff.1 hh).1, fun j hj => ?_⟩⟩
    have e := h.cellAt j (by omega)
    rw [Nat.zero_add, e, List.getElem?_map, List.getElem?_eq_getElem hj]
    rfl

/-- a row of its own that was laid out -/
theorem Bls.laid (w : World) (l : List Bool) (c : Nat) : Bls (w.alloc (.cells (l.map Tb).toArray 4)) (.slice (some ⟨w.heap.size, 0, none⟩) l.length c) l := by
  refine ⟨.inr ⟨w.heap.size, 0, c, rfl, by simp, fun j hj => ?_⟩⟩
  rw [Nat.zero_add, cell_of_row _ w.heap.size j _ _ _ (heap_alloc_new w _)]
  simp [hj]
  rfl

theorem Ints.laid (w : World) (l : List Int) (c : Nat) : Ints (w.alloc (.cells (l.map Iv).toArray 3)) (.slice (some ⟨w.heap.size, 0, none⟩) l.length c) l := by
  refine ⟨.inr ⟨w.heap.size, 0, c, rfl, by simp, fun j hj => ?_⟩⟩
  rw [Nat.zero_add, cell_of_row _ w.heap.size j _ _ _ (heap_alloc_new w _)]
  simp [hj]
  rfl

theorem Ints.past {w w' : World} {v : Value} {l : List Int} (h : Ints w v l) (hb : Below w.heap.size w w') : Ints w' v l := h.below (Nat.le_refl _) hb

/-- a row of falses that was made -/
theorem made_falses {base g n : Nat} {w : World} (h : w.ownsRow base 4 1 (.slice (some ⟨g, 0, none⟩) n n) n (madeCells (Value.bool false).cells (n * 1)).toList) :
    w.ownsRow base 4 1 (.slice (some ⟨g, 0, none⟩) n n) n ((List.replicate n false).map Tb) := by
  have e : (madeCells (Value.bool false).cells (n * 1)).toList = (List.replicate n false).map Tb := by
    rw [Nat.mul_one]
    refine List.ext_getElem (by simp [size_madeCells]) fun i h1 h2 => ?_
    simp [madeCells, Value.cells, Tb, Nat.mod_one]
  rw [← e]
  exact h

theorem bool_store {base g n cap : Nat} {w : World} {l : List Bool} (h : w.ownsRow base 4 1 (.slice (some ⟨g, 0, none⟩) n cap) n (l.map Tb)) (k : Nat) (x : Bool) :
    (w.setCell ⟨g, k, none⟩ (.bool x)).ownsRow base 4 1 (.slice (some ⟨g, 0, none⟩) n cap) n ((l.set k x).map Tb) := by
  have := (h.stored k (.bool x)).1
  rw [List.map_set]
  exact this

theorem bool_at {base g n cap : Nat} {w : World} {l : List Bool} (h : w.ownsRow base 4 1 (.slice (some ⟨g, 0, none⟩) n cap) n (l.map Tb)) (k : Nat) (hk : k < l.length) :
    w.cell? ⟨g, k, none⟩ = some (.bool l[k]) := by
  have hn : l.length = n := by have := h.1; simpa using this
  rw [h.cellAt k (by omega), List.getElem?_map, List.getElem?_eq_getElem hk]
  rfl

/-- a policy -/
def polV (p : Kp.Pol) : Value := .agg #[.int .i64 p.last, .int .i64 p.days, .int .i64 p.weeks, .int .i64 p.months, .int .i64 p.years]
def polC (p : Kp.Pol) : Array Value := #[.int .i64 p.last, .int .i64 p.days, .int .i64 p.weeks, .int .i64 p.months, .int .i64 p.years]

namespace Kp
def pErr (p : Pol) : Int := if p.Ok then 0 else 1
def tErr (l : List Int) : Int := if 200 < l.length then 2 else chk l
def pickErr (p : Pol) (l : List Int) : Int := if pErr p ≠ 0 then pErr p else tErr l
def pickL (p : Pol) (l : List Int) : List Bool := if pickErr p l = 0 then kept p l else []
theorem pErr_two (p : Pol) : pErr p = 0 ∨ pErr p = 1 := by unfold pErr; split <;> simp
theorem pickL_no {p : Pol} {l : List Int} (h : pickErr p l ≠ 0) : pickL p l = [] := if_neg h
theorem pickL_ok {p : Pol} {l : List Int} (h : pickErr p l = 0) : pickL p l = kept p l := if_pos h
theorem pick_ok {p : Pol} {l : List Int} (h : pickErr p l = 0) : p.Ok ∧ l.length ≤ 200 ∧ chk l = 0 := by
  unfold pickErr at h
  by_cases h1 : pErr p = 0
  · rw [h1, if_neg (by simp)] at h
    have hp : p.Ok := by
      unfold pErr at h1
      split at h1
      · assumption
      · omega
    unfold tErr at h
    split at h
    · omega
    · exact ⟨hp, by omega, h⟩
  · rw [if_pos h1] at h
    exact absurd h h1
end Kp

set_option maxHeartbeats 1000000 in
theorem equal_bools (v1 v2 : Value) (l : List Bool) (w : World) (h1 : Bls w v1 l) (h2 : Bls w v2 l) (hl : l.length ≤ 140737488351232) :
    Calls Try.prog 13 #[v1, v2] w fun e w' => e = .returned (.bool true) ∧ Below w.heap.size w w' := by
  obtain ⟨a1, c1, rfl⟩ := h1.slice
  obtain ⟨a2, c2, rfl⟩ := h2.slice
  go_enter Try.func13, Try.ntmps13
  go_wp2_with fail
  go_loopw [13] (fun i wr => ∃ k : Nat, k ≤ l.length ∧ i = .int .i64 k ∧ Below w.heap.size w wr) (fun i _ => l.length - (intOf i).toNat)
  case atStart => exact ⟨0, by omega, rfl, Below.refl _ _⟩
  case round =>
    obtain ⟨k, hk, rfl, hbel⟩ := hrel
    by_cases hlt : k < l.length
    · obtain ⟨bk, o, rfl, _, hbk, c0⟩ := (h1.below (Nat.le_refl _) hbel).get k hlt
      obtain ⟨bk', o', rfl, _, hbk', d0⟩ := (h2.below (Nat.le_refl _) hbel).get k hlt
      generalize ht : l[k] = t at *
      clear ht h1 h2
      have x0 : ∀ X : Since wr.heap.size wr, X.val.cell? ⟨bk, o + k, none⟩ = some (.bool t) := fun X => (X.property.cell (p := ⟨bk, o + k, none⟩) hbk).trans c0
      have y0 : ∀ X : Since wr.heap.size wr, X.val.cell? ⟨bk', o' + k, none⟩ = some (.bool t) := fun X => (X.property.cell (p := ⟨bk', o' + k, none⟩) hbk').trans d0
      clear c0 d0
      have hne : Nonempty (Since wr.heap.size wr) := ⟨⟨wr, Below.refl _ _⟩⟩
      go_wp2_with fail
      refine wp_region_since (B := wr.heap.size) (W0 := wr) (by kernel_rfl) (by kernel_rfl) (Below.refl _ _) ?_
      repeat (go_big_quiet_step (fail))
      refine wpQuiet_nil ?_
      rintro w7 ⟨U, rfl⟩
      have hU := U.property
      have HB3 : Hid (Below w.heap.size w U.val) := hbel.trans (hU.mono hbel.size)
      generalize U.val = w7 at *
      clear hU hbel x0 y0 hne
      go_wp2_with fail
      go_roundw
      case rel => exact ⟨k + 1, by omega, by go_num, HB3.out⟩
      case measure => simp only [intOf]; omega
    · go_wp2_with fail
      go_ret
      exact ⟨rfl, hbel⟩

end Go.Proofs.Ytoibiaikbgkbpaa
