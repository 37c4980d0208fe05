/-
  Bytes in rows of a call's own: what stays, what is stored.
-/
import Derived.Test.YtoeohnknpbdgdaaDoorFdBy
import Derived.Test.YtoeohnknpbdgdaaDoorKept
import Derived.Test.YtoeohnknpbdgdaaDoorShMend
import Derived.Test.YtoeohnknpbdgdaaDoorBytes
import Derived.Laws.IdiomStrings
namespace Go.Proofs.YtoeohnknpbdgdaaDoor
open Go.RowKit

theorem own_kept {p : Nat → Prop} {base : Nat} {e : TypeId} {k : Nat} {v : Value} {n : Nat} {xs : List Value} {w w' : World} (h : w.ownsRow base e k v n xs) (hk : Kept p w w') (hp : ∀ g, v.ownBlock = some g → p g) : w'.ownsRow base e k v n xs := by
  obtain ⟨h1, h2⟩ := h
  refine ⟨h1, ?_⟩
  rcases h2 with h2 | ⟨g, cap, cur, hv, hg, hh, r⟩
  · exact .inl h2
  · refine .inr ⟨g, cap, cur, hv, hg, ?_, r⟩
    rw [hk.block g (Array.getElem?_eq_some_iff.1 hh).1 (hp g (by rw [hv]; rfl)), hh]
theorem own_below {base : Nat} {e : TypeId} {k : Nat} {v : Value} {n : Nat} {xs : List Value} {w w' : World} (h : w.ownsRow base e k v n xs) (hb : Below w.heap.size w w') : w'.ownsRow base e k v n xs :=
  own_kept h (Kept.of_below (p := fun _ => True) hb) fun _ _ => trivial
theorem own_lower {base base' : Nat} {e : TypeId} {k : Nat} {v : Value} {n : Nat} {xs : List Value} {w : World} (h : w.ownsRow base e k v n xs) (hb : base' ≤ base) : w.ownsRow base' e k v n xs := by
  obtain ⟨h1, h2⟩ := h
  refine ⟨h1, ?_⟩
  rcases h2 with h2 | ⟨g, cap, cur, hv, hg, r⟩
  · exact .inl h2
  · exact .inr ⟨g, cap, cur, hv, by omega, r⟩
theorem own_block {base : Nat} {e : TypeId} {k : Nat} {v : Value} {n : Nat} {xs : List Value} {w : World} (h : w.ownsRow base e k v n xs) {g : Nat} (hg : v.ownBlock = some g) : ∃ cur, w.heap[g]? = some (.cells cur e (0, 0)) ∧ base ≤ g ∧ g < w.heap.size := by
  rcases h.2 with ⟨rfl, _⟩ | ⟨g', cap, cur, rfl, hb, hh, _⟩
  · simp [Value.ownBlock] at hg
  · simp [Value.ownBlock] at hg
    subst hg
    exact ⟨cur, hh, hb, (Array.getElem?_eq_some_iff.1 hh).1⟩
/-- rows of unlike cells are no one block -/
theorem own_unlike {b1 b2 : Nat} {e1 e2 : TypeId} {k1 k2 : Nat} {v1 v2 : Value} {n1 n2 : Nat} {x1 x2 : List Value} {w : World} (h1 : w.ownsRow b1 e1 k1 v1 n1 x1) (h2 : w.ownsRow b2 e2 k2 v2 n2 x2) (hne : e1 ≠ e2) : ∀ g, v1.ownBlock = some g → v2.ownBlock ≠ some g := by
  intro g hg hg2
  obtain ⟨c1, a1, _⟩ := own_block h1 hg
  obtain ⟨c2, a2, _⟩ := own_block h2 hg2
  rw [a1] at a2
  simp at a2
  exact hne a2.2
theorem own_len {base : Nat} {e : TypeId} {k : Nat} {v : Value} {n : Nat} {xs : List Value} {w : World} (h : w.ownsRow base e k v n xs) : ∃ a c, v = .slice a n c := by
  rcases h.2 with ⟨rfl, h0⟩ | ⟨g, cap, cur, rfl, _⟩
  · exact ⟨_, _, by rw [h0]⟩
  · exact ⟨_, _, rfl⟩
theorem own_some {base : Nat} {e : TypeId} {k : Nat} {v : Value} {n : Nat} {xs : List Value} {w : World} (h : w.ownsRow base e k v n xs) (hn : 0 < n) : ∃ g c, v = .slice (some ⟨g, 0, none⟩) n c ∧ base ≤ g ∧ g < w.heap.size := by
  rcases h.2 with ⟨rfl, h0⟩ | ⟨g, cap, cur, rfl, hb, hh, _⟩
  · omega
  · exact ⟨_, _, rfl, hb, (Array.getElem?_eq_some_iff.1 hh).1⟩

/-- bytes in a block of one's own -/
def Ob (w : World) (base : Nat) (v : Value) (l : List Nat) : Prop :=
  (v = .slice none 0 0 ∧ l = []) ∨ ∃ g cap cur z, v = .slice (some ⟨g, 0, none⟩) l.length cap ∧ base ≤ g ∧ w.heap[g]? = some (.cells cur 5 z) ∧
    ∀ k, k < l.length → w.cell? ⟨g, k, none⟩ = some (.int .u8 (l.getD k 0 : Nat)) ∧ w.frozen? ⟨g, k, none⟩ = false
theorem Ob.of_own {w : World} {base : Nat} {v : Value} {l : List Nat} (h : w.ownsRow base 5 1 v l.length (l.map Bv)) : Ob w base v l := by
  rcases h.2 with ⟨rfl, h0⟩ | ⟨g, cap, cur, rfl, hb, hh, _⟩
  · exact .inl ⟨rfl, List.length_eq_zero_iff.1 h0⟩
  · refine .inr ⟨g, cap, cur, _, rfl, hb, hh, fun k hk => ⟨?_, World.ownsRow.frozenAt h k⟩⟩
    rw [World.ownsRow.cellAt h k (by omega), List.getElem?_map, List.getD_eq_getElem?_getD, List.getElem?_eq_getElem hk]
    rfl
theorem Ob.lower {w : World} {base b2 : Nat} {v : Value} {l : List Nat} (h : Ob w base v l) (hb : b2 ≤ base) : Ob w b2 v l := by
  rcases h with h | ⟨g, cap, cur, z, h1, h2, h3⟩
  · exact .inl h
  · exact .inr ⟨g, cap, cur, z, h1, by omega, h3⟩
theorem Ob.len {w : World} {base : Nat} {v : Value} {l : List Nat} (h : Ob w base v l) : ∃ a c, v = .slice a l.length c := by
  rcases h with ⟨rfl, rfl⟩ | ⟨g, cap, cur, z, h1, _⟩
  · exact ⟨_, _, rfl⟩
  · exact ⟨_, _, h1⟩
theorem Ob.block {w : World} {base : Nat} {v : Value} {l : List Nat} (h : Ob w base v l) {g : Nat} (hg : v.ownBlock = some g) : ∃ cur z, w.heap[g]? = some (.cells cur 5 z) ∧ base ≤ g ∧ g < w.heap.size := by
  rcases h with ⟨rfl, _⟩ | ⟨g', cap, cur, z, rfl, hb, hh, _⟩
  · simp [Value.ownBlock] at hg
  · simp [Value.ownBlock] at hg
    subst hg
    exact ⟨cur, z, hh, hb, (Array.getElem?_eq_some_iff.1 hh).1⟩
theorem Ob.some_ {w : World} {base : Nat} {v : Value} {l : List Nat} (h : Ob w base v l) (hl : 0 < l.length) : ∃ g c, v = .slice (some ⟨g, 0, none⟩) l.length c ∧ base ≤ g ∧ g < w.heap.size := by
  rcases h with ⟨_, rfl⟩ | ⟨g, cap, cur, z, h1, hb, hh, _⟩
  · simp at hl
  · exact ⟨_, _, h1, hb, (Array.getElem?_eq_some_iff.1 hh).1⟩
theorem Ob.kept {p : Nat → Prop} {w w' : World} {base : Nat} {v : Value} {l : List Nat} (h : Ob w base v l) (hk : Kept p w w') (hp : ∀ g, v.ownBlock = some g → p g) : Ob w' base v l := by
  rcases h with h | ⟨g, cap, cur, z, h1, hb, hh, hc⟩
  · exact .inl h
  · have e := hk.block g (Array.getElem?_eq_some_iff.1 hh).1 (hp g (by rw [h1]; rfl))
    refine .inr ⟨g, cap, cur, z, h1, hb, e.trans hh, fun k hk => ?_⟩
    have := hc k hk
    rw [show w'.cell? ⟨g, k, none⟩ = w.cell? ⟨g, k, none⟩ from by simp only [World.cell?, e], show w'.frozen? ⟨g, k, none⟩ = w.frozen? ⟨g, k, none⟩ from by simp only [World.frozen?, e]]
    exact this
theorem Ob.below {w w' : World} {base : Nat} {v : Value} {l : List Nat} (h : Ob w base v l) (hb : Below w.heap.size w w') : Ob w' base v l := h.kept (Kept.of_below (p := fun _ => True) hb) fun _ _ => trivial
theorem Ob.at_ {w : World} {base g n c : Nat} {l : List Nat} (h : Ob w base (.slice (some ⟨g, 0, none⟩) n c) l) (k : Nat) (hk : k < l.length) : w.cell? ⟨g, k, none⟩ = some (.int .u8 (l.getD k 0 : Nat)) := by
  rcases h with ⟨h, _⟩ | ⟨g', cap, cur, z, h1, _, _, hc⟩
  · simp at h
  · simp at h1
    obtain ⟨rfl, _⟩ := h1
    exact (hc k hk).1
theorem Ob.frozen {w : World} {base g n c : Nat} {l : List Nat} (h : Ob w base (.slice (some ⟨g, 0, none⟩) n c) l) (k : Nat) (hk : k < l.length) : w.frozen? ⟨g, k, none⟩ = false := by
  rcases h with ⟨h, _⟩ | ⟨g', cap, cur, z, h1, _, _, hc⟩
  · simp at h
  · simp at h1
    obtain ⟨rfl, _⟩ := h1
    exact (hc k hk).2
theorem heap_set (w : World) (g i : Nat) (cs : Array Value) (t : TypeId) (z : Nat × Nat) (v : Value) (hg : w.heap[g]? = some (.cells cs t z)) :
    (w.setCell ⟨g, i, none⟩ v).heap[g]? = some (.cells (cs.setIfInBounds i v) t z) := by
  rw [setCell_eq_setRow w g i cs t z v hg]
  exact setRow_heap w g cs _ t _ hg
theorem Ob.set {w : World} {base g n c : Nat} {l : List Nat} (h : Ob w base (.slice (some ⟨g, 0, none⟩) n c) l) (k x : Nat) (hk : k < l.length) : Ob (w.setCell ⟨g, k, none⟩ (.int .u8 (x : Nat))) base (.slice (some ⟨g, 0, none⟩) n c) (l.set k x) := by
  have hk' := h.at_ k hk
  rcases h with ⟨h, _⟩ | ⟨g', cap, cur, z, h1, hb, hh, hc⟩
  · simp at h
  · simp at h1
    obtain ⟨rfl, rfl, rfl⟩ := h1
    refine .inr ⟨g, c, _, z, by rw [List.length_set], hb, heap_set w g k cur _ z _ hh, fun j hj => ?_⟩
    rw [List.length_set] at hj
    rw [World.frozen?_setCell]
    refine ⟨?_, (hc j hj).2⟩
    rw [List.getD_eq_getElem?_getD, List.getElem?_set]
    by_cases e : k = j
    · subst e
      rw [if_pos rfl, if_pos hk, World.cell?_setCell_same _ _ _ hk']
      rfl
    · rw [if_neg e, World.cell?_setCell_other _ _ _ _ (fun q => e (Addr.mk.inj q).2.1), ← List.getD_eq_getElem?_getD]
      exact (hc j hj).1
/-- no block of a row of other cells -/
theorem Ob.unlike {w : World} {base b2 : Nat} {e : TypeId} {k n : Nat} {v u : Value} {l : List Nat} {xs : List Value} (h : Ob w base v l) (h2 : w.ownsRow b2 e k u n xs) (hne : e ≠ 5) : ∀ g, v.ownBlock = some g → u.ownBlock ≠ some g := by
  intro g hg hg2
  obtain ⟨c1, z, a1, _⟩ := h.block hg
  obtain ⟨c2, a2, _⟩ := own_block h2 hg2
  rw [a1] at a2
  simp at a2
  exact hne a2.2.1.symm

/-- a text's bytes, and the text of bytes -/
def nb (s : ByteArray) : List Nat := s.data.toList.map UInt8.toNat
def bn (l : List Nat) : ByteArray := ⟨(l.map UInt8.ofNat).toArray⟩
theorem nb_length (s : ByteArray) : (nb s).length = s.size := by rw [nb, List.length_map]; rfl
theorem bn_size (l : List Nat) : (bn l).size = l.length := by simp [bn, ByteArray.size]
theorem nb_bs (s : ByteArray) : Fd.Bs (nb s) := fun c hc => by
  obtain ⟨b, _, rfl⟩ := List.mem_map.mp hc
  exact b.toNat_lt
theorem nb_bn {l : List Nat} (h : Fd.Bs l) : nb (bn l) = l := by
  unfold nb bn
  rw [List.map_map]
  have : ∀ a ∈ l, (UInt8.toNat ∘ UInt8.ofNat) a = a := fun a ha => by
    have := h a ha
    simp only [Function.comp, UInt8.toNat_ofNat']
    exact Nat.mod_eq_of_lt (by simpa using this)
  rw [List.map_congr_left this, List.map_id']
theorem bn_nb (s : ByteArray) : bn (nb s) = s := by
  apply ByteArray.ext
  apply Array.toList_inj.1
  unfold nb bn
  rw [List.map_map]
  show List.map _ s.data.toList = s.data.toList
  conv => rhs; rw [← List.map_id s.data.toList]
  exact List.map_congr_left fun a _ => by simp
theorem nb_inj {s t : ByteArray} (h : nb s = nb t) : s = t := by rw [← bn_nb s, ← bn_nb t, h]
theorem nb_get (s : ByteArray) (j : Nat) (hj : j < s.size) : (nb s).getD j 0 = s[j].toNat := by
  rw [List.getD_eq_getElem?_getD, List.getElem?_eq_getElem (by rw [nb_length]; exact hj)]
  simp only [nb, List.getElem_map, Option.getD_some]
  rfl
/-- '[]byte(s)' -/
theorem conv_ob (w : World) (s : ByteArray) : ∃ W1 cap, (convert 9 34 (.string s)).run Tryd.prog w = .ok (.slice (some ⟨w.heap.size, 0, none⟩) s.size cap) W1 ∧ Ob W1 w.heap.size (.slice (some ⟨w.heap.size, 0, none⟩) s.size cap) (nb s) ∧ Below w.heap.size w W1 ∧ w.heap.size < W1.heap.size := by
  have hcv := run_bytes_of_string (P := Tryd.prog) w 9 34 5 s (by kernel_rfl) (by kernel_rfl) (by kernel_rfl)
  refine ⟨_, _, hcv, .inr ⟨w.heap.size, _, _, _, by rw [nb_length], Nat.le_refl _, heap_alloc_new w.drew _, fun k hk => ?_⟩, ((Below.refl _ w).alloc (Nat.le_refl _) _).drew, by simp⟩
  rw [nb_length] at hk
  refine ⟨?_, ?_⟩
  · rw [nb_get s k hk]
    exact bytes_cell w s _ _ k hk
  · generalize hC : bytesRow s _ = C
    have hsz : s.size ≤ C.size := by rw [← hC, bytesRow]; simp
    have hh : (w.drew.alloc (.cells C 5 (C.size, C.size + 1))).heap[w.heap.size]? = some (.cells C 5 (C.size, C.size + 1)) := heap_alloc_new w.drew _
    simp only [World.frozen?, hh]
    simp
    omega
/-- 'string(v)' -/
theorem Ob.str {w : World} {base : Nat} {v : Value} {l : List Nat} (h : Ob w base v l) (hb : Fd.Bs l) : (convert 34 9 v).run Tryd.prog w = .ok (.string (bn l)) w := by
  rcases h with ⟨rfl, rfl⟩ | ⟨g, cap, cur, z, rfl, _, hh, hc⟩
  · exact run_convert_bytes_nil w 34 5 (by kernel_rfl) (by kernel_rfl) 0 0 9 (by kernel_rfl)
  · have := run_convert_bytes_back (P := Tryd.prog) w 34 9 5 ⟨g, 0, none⟩ cap (l.map UInt8.ofNat) (by kernel_rfl) (by kernel_rfl) (by kernel_rfl) ?_
    · rw [List.length_map] at this
      exact this
    · intro j hj
      rw [List.length_map] at hj
      have e := (hc j hj).1
      rw [List.getElem_map, UInt8.toNat_ofNat', Nat.mod_eq_of_lt (by simpa using hb _ (List.getElem_mem hj))]
      rw [List.getD_eq_getElem?_getD, List.getElem?_eq_getElem hj] at e
      rw [show (⟨g, 0, none⟩ : Addr).add j = ⟨g, j, none⟩ from by unfold Addr.add; split <;> simp_all]
      exact e

namespace Fd
/-- both added up to k -/
def addTo (s l : List Nat) (f k : Nat) : List Nat := (List.range s.length).map fun j => if j < k then s.getD j 0 ^^^ M (l.getD j 0) f else s.getD j 0
def mulTo (l : List Nat) (f k : Nat) : List Nat := (List.range l.length).map fun j => if j < k then M (l.getD j 0) f else l.getD j 0
theorem addTo_length (s l : List Nat) (f k : Nat) : (addTo s l f k).length = s.length := by simp [addTo]
theorem mulTo_length (l : List Nat) (f k : Nat) : (mulTo l f k).length = l.length := by simp [mulTo]
theorem range_get {n : Nat} (g : Nat → Nat) {k : Nat} (hk : k < n) : ((List.range n).map g).getD k 0 = g k := by
  rw [List.getD_eq_getElem?_getD, List.getElem?_eq_getElem (by simpa using hk)]
  simp
theorem range_all (s : List Nat) : (List.range s.length).map (fun j => s.getD j 0) = s := by
  refine List.ext_getElem (by simp) fun i h1 h2 => ?_
  simp [List.getD_eq_getElem?_getD, List.getElem?_eq_getElem h2]
theorem range_set (n k : Nat) (g h : Nat → Nat) (hs : ∀ j, j < n → j ≠ k → g j = h j) (hk : k < n → g k = h k) : (List.range n).map g = ((List.range n).map h) := by
  refine List.ext_getElem (by simp) fun i h1 h2 => ?_
  simp at h1
  simp only [List.getElem_map, List.getElem_range]
  by_cases e : i = k
  · subst e; exact hk h1
  · exact hs i h1 e
theorem addTo_zero (s l : List Nat) (f : Nat) : addTo s l f 0 = s := by
  unfold addTo
  simp only [Nat.not_lt_zero, if_false]
  exact range_all s
theorem mulTo_zero (l : List Nat) (f : Nat) : mulTo l f 0 = l := by
  unfold mulTo
  simp only [Nat.not_lt_zero, if_false]
  exact range_all l
theorem addTo_get {s l : List Nat} {f k : Nat} (hk : k < s.length) : (addTo s l f k).getD k 0 = s.getD k 0 := by
  unfold addTo
  rw [range_get _ hk, if_neg (by omega)]
theorem mulTo_get {l : List Nat} {f k : Nat} (hk : k < l.length) : (mulTo l f k).getD k 0 = l.getD k 0 := by
  unfold mulTo
  rw [range_get _ hk, if_neg (by omega)]
theorem addTo_set (s l : List Nat) (f k : Nat) : addTo s l f (k + 1) = (addTo s l f k).set k (s.getD k 0 ^^^ M (l.getD k 0) f) := by
  refine List.ext_getElem (by simp [addTo]) fun i h1 h2 => ?_
  simp only [addTo, List.getElem_map, List.getElem_range, List.getElem_set]
  by_cases e : k = i
  · subst e; rw [if_pos (by omega), if_pos rfl]
  · rw [if_neg e]
    by_cases h : i < k
    · rw [if_pos h, if_pos (by omega)]
    · rw [if_neg h, if_neg (by omega)]
theorem mulTo_set (l : List Nat) (f k : Nat) : mulTo l f (k + 1) = (mulTo l f k).set k (M (l.getD k 0) f) := by
  refine List.ext_getElem (by simp [mulTo]) fun i h1 h2 => ?_
  simp only [mulTo, List.getElem_map, List.getElem_range, List.getElem_set]
  by_cases e : k = i
  · subst e; rw [if_pos (by omega), if_pos rfl]
  · rw [if_neg e]
    by_cases h : i < k
    · rw [if_pos h, if_pos (by omega)]
    · rw [if_neg h, if_neg (by omega)]
theorem addTo_all {s l : List Nat} (h : s.length = l.length) (f : Nat) : addTo s l f s.length = addL s l f := by
  refine List.ext_getElem (by rw [addTo_length, addL_length h]) fun i h1 h2 => ?_
  rw [addTo_length] at h1
  simp only [addTo, addL, List.getElem_map, List.getElem_range, List.getElem_zipWith]
  rw [if_pos h1, List.getD_eq_getElem?_getD, List.getD_eq_getElem?_getD, List.getElem?_eq_getElem h1, List.getElem?_eq_getElem (by omega)]
  rfl
theorem mulTo_all (l : List Nat) (f : Nat) : mulTo l f l.length = mulL l f := by
  refine List.ext_getElem (by rw [mulTo_length, mulL_length]) fun i h1 h2 => ?_
  rw [mulTo_length] at h1
  simp only [mulTo, mulL, List.getElem_map, List.getElem_range]
  rw [if_pos h1, List.getD_eq_getElem?_getD, List.getElem?_eq_getElem h1]
  rfl
end Fd
end Go.Proofs.YtoeohnknpbdgdaaDoor
