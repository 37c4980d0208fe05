/-
  Appending within the capacity; a block that may be written; a list with two more things behind it, of any fixed form.
-/
import Derived.Test.YtllioidjelgafabPlClone
import Derived.Test.YtllioidjelgafabPlRw
import Derived.Test.YtllioidjelgafabPlText
import Derived.Test.YtllioidjelgafabQuietSince
import Derived.Deep.RegionHeld3
import Derived.Deep.MidRow
import Derived.Deep.Cut
import Derived.Lib.SliceRun
namespace Go.Proofs.Ytllioidjelgafab
open Go.RowKit

theorem append_none_c {P : Program} (w : World) (base : Nat) (t ty e : TypeId) (i : TypeInfo) (size : Nat) (ht : P.underlying t = some (.slice e)) (hi : P.info? e = some i) (v : Value) (n : Nat) (xs : List Value) (hown : w.ownsRow base e size v n xs) (c : Nat) :
    (Builtin.append_ #[t, t] ty #[v, .slice none 0 c]).run P w = .ok v w := by
  rcases hown.2 with ⟨rfl, rfl⟩ | ⟨g, cap, cur, rfl, _, _, hnc, _⟩
  · simp [Builtin.append_, run_underlying ht, sizeOf, typeInfo, hi, Builtin.lenOf, Builtin.firstCells]
  · simp [Builtin.append_, run_underlying ht, sizeOf, typeInfo, hi, Builtin.lenOf, Builtin.firstCells, hnc, storeCells]
theorem run_fits_all {P : Program} (w : World) (base : Nat) (t ty e : TypeId) (i : TypeInfo) (size : Nat) (ht : P.underlying t = some (.slice e)) (hi : P.info? e = some i) (hsize : i.size = size)
    (g n cap : Nat) (xs : List Value) (hown : w.ownsRow base e size (.slice (some ⟨g, 0, none⟩) n cap) n xs) (ao : Option Addr) (m c : Nat) (news : List Value) (hl : news.length = m * size) (hnone : ao = none → m = 0)
    (hnews : ∀ ad, ao = some ad → ∀ j u, news[j]? = some u → w.cell? (ad.add j) = some u) (h1 : ∀ u ∈ news, u.oneCell' = true) (hroom : n + m ≤ cap) :
    ∃ w', (Builtin.append_ #[t, t] ty #[.slice (some ⟨g, 0, none⟩) n cap, .slice ao m c]).run P w = .ok (.slice (some ⟨g, 0, none⟩) (n + m) cap) w' ∧
      w'.ownsRow base e size (.slice (some ⟨g, 0, none⟩) (n + m) cap) (n + m) (xs ++ news) ∧ w.grownBy w' (some g) := by
  cases ao with
  | some ad => exact run_append_fits w base t ty e i size ht hi hsize g n cap xs hown ad m c news hl (hnews ad rfl) h1 hroom
  | none =>
    obtain rfl := hnone rfl
    have hnews : news = [] := List.eq_nil_of_length_eq_zero (by simpa using hl)
    subst hnews
    exact ⟨w, append_none_c w base t ty e i size ht hi _ n xs hown c, by simpa using hown, ⟨rfl, rfl, rfl, Nat.le_refl _, fun _ _ _ => rfl⟩⟩
/-- 'append' within the capacity, whatever is appended -/
theorem wpList_fits_all {P : Program} (w : World) {ops : Array Oper} {rest : List Oper} {o : Oper} {a : Act} {Q : Exit → Act → World → Prop}
    (hg : o.guard = none) (s x : Operand) (t : TypeId) (hop : o.op = Op.call { callee := Callee.builtin Builtin.append, args := #[s, x], argTypes := #[t, t] })
    (base : Nat) (e : TypeId) (i : TypeInfo) (size : Nat) (h1 : P.underlying t = some (.slice e)) (h2 : P.info? e = some i) (h4 : i.size = size)
    (g k cap : Nat) (xs : List Value) (hs : a.eval s = .slice (some ⟨g, 0, none⟩) k cap) (hown : w.ownsRow base e size (.slice (some ⟨g, 0, none⟩) k cap) k xs) (ao : Option Addr) (m c : Nat) (news : List Value) (hx : a.eval x = .slice ao m c) (hn : news.length = m * size)
    (hnone : ao = none → m = 0) (hc : ∀ ad, ao = some ad → ∀ j u, news[j]? = some u → w.cell? (ad.add j) = some u) (h1c : ∀ u ∈ news, u.oneCell' = true) (b1 : k + m ≤ cap)
    (hK : ∀ w', w'.ownsRow base e size (.slice (some ⟨g, 0, none⟩) (k + m) cap) (k + m) (xs ++ news) → w.grownBy w' (some g) → wpList P ops Q rest (a.put o.dst (.slice (some ⟨g, 0, none⟩) (k + m) cap)) w') :
    wpList P ops Q (o :: rest) a w := by
  refine wpList_plain hg fun K hK' => ?_
  obtain ⟨w', hrun, r1, r2⟩ := run_fits_all (P := P) w base t o.type e i size h1 h2 h4 g k cap xs hown ao m c news hn hnone hc h1c b1
  unfold Oper.wp
  simp [execOp, hop, resolve, invoke, builtin, hs, hx, hrun, Result.andThen]
  exact hK' _ _ (hK w' r1 r2)
theorem step_of_wp {P : Program} {ops : Array Oper} {o : Oper} {a : Act} {w : World} {K : Act → World → Prop} {Q : Exit → Act → World → Prop} {E : Prop} (hg : o.guard = none) (h : Oper.wp P o a w K Q) : if Region.wanted o (yielded ops a.tmps) = true then Oper.wp P o a w K Q else E := by
  rw [if_pos (by simp [Region.wanted, hg])]
  exact h
theorem step_make_own {P : Program} (w : World) {ops : Array Oper} {o : Oper} {a : Act} {K : Act → World → Prop} {Q : Exit → Act → World → Prop} {E : Prop}
    (hg : o.guard = none) (l c : Operand) (t : TypeId) (hop : o.op = Op.makeSlice t l c)
    (base : Nat) (e : TypeId) (i : TypeInfo) (z : Value) (size : Nat) (h1 : P.underlying t = some (.slice e)) (h2 : P.info? e = some i) (h3 : i.zero = some z) (h4 : i.size = size)
    (kl kc : IntKind) (C : Int) (n : Nat) (hl : a.eval l = .int kl 0) (hc : a.eval c = .int kc C) (hC : C = (n : Int)) (b2 : i.bytes * n ≤ 281474976710656) (b3 : n ≤ maxLen) (b4 : base ≤ w.heap.size)
    (hK : ∀ w' g, w'.ownsRow base e size (.slice (some ⟨g, 0, none⟩) 0 n) 0 [] → w.grownBy w' none → K (a.put o.dst (.slice (some ⟨g, 0, none⟩) 0 n)) w') :
    if Region.wanted o (yielded ops a.tmps) = true then Oper.wp P o a w K Q else E := by
  refine step_of_wp hg ?_
  obtain ⟨w', hrun, r1, r2⟩ := run_make_own (P := P) w base t e i z size h1 h2 h3 h4 kl kc n b2 b3 b4
  subst hC
  unfold Oper.wp
  simp [execOp, hop, hl, hc, hrun, Result.andThen]
  exact hK w' _ r1 r2
theorem step_fits_all {P : Program} (w : World) {ops : Array Oper} {o : Oper} {a : Act} {K : Act → World → Prop} {Q : Exit → Act → World → Prop} {E : Prop}
    (hg : o.guard = none) (s x : Operand) (t : TypeId) (hop : o.op = Op.call { callee := Callee.builtin Builtin.append, args := #[s, x], argTypes := #[t, t] })
    (base : Nat) (e : TypeId) (i : TypeInfo) (size : Nat) (h1 : P.underlying t = some (.slice e)) (h2 : P.info? e = some i) (h4 : i.size = size)
    (g k cap : Nat) (xs : List Value) (hs : a.eval s = .slice (some ⟨g, 0, none⟩) k cap) (hown : w.ownsRow base e size (.slice (some ⟨g, 0, none⟩) k cap) k xs) (ao : Option Addr) (m c : Nat) (news : List Value) (hx : a.eval x = .slice ao m c) (hn : news.length = m * size)
    (hnone : ao = none → m = 0) (hc : ∀ ad, ao = some ad → ∀ j u, news[j]? = some u → w.cell? (ad.add j) = some u) (h1c : ∀ u ∈ news, u.oneCell' = true) (b1 : k + m ≤ cap) (km : Nat) (hkm : km = k + m)
    (hK : ∀ w', w'.ownsRow base e size (.slice (some ⟨g, 0, none⟩) km cap) km (xs ++ news) → w.grownBy w' (some g) → K (a.put o.dst (.slice (some ⟨g, 0, none⟩) km cap)) w') :
    if Region.wanted o (yielded ops a.tmps) = true then Oper.wp P o a w K Q else E := by
  refine step_of_wp hg ?_
  obtain ⟨w', hrun, r1, r2⟩ := run_fits_all (P := P) w base t o.type e i size h1 h2 h4 g k cap xs hown ao m c news hn hnone hc h1c b1
  subst hkm
  unfold Oper.wp
  simp [execOp, hop, resolve, invoke, builtin, hs, hx, hrun, Result.andThen]
  exact hK w' r1 r2
/-- a block of cells that may be written, of n and no other one -/
structure Room (W : World) (g n : Nat) (e : TypeId) : Prop where
  at_ : ∃ cur, W.heap[g]? = some (.cells cur e (0, 0)) ∧ cur.size = n
theorem Room.cell {W : World} {g n : Nat} {e : TypeId} (h : Room W g n e) (j : Nat) (hj : j < n) : (∃ x, W.cell? ⟨g, j, none⟩ = some x) ∧ W.frozen? ⟨g, j, none⟩ = false := by
  obtain ⟨cur, h1, h2⟩ := h.at_
  refine ⟨⟨cur[j]'(by omega), ?_⟩, frozen_of_row W g j cur e h1⟩
  rw [cell_of_row W g j cur e (0, 0) h1]
  simp [h2, hj]
theorem Room.set {W : World} {g n : Nat} {e : TypeId} (h : Room W g n e) (j : Nat) (u : Value) : Room (W.setCell ⟨g, j, none⟩ u) g n e := by
  obtain ⟨cur, h1, h2⟩ := h.at_
  exact ⟨_, heap_setCell_same W g j cur e u h1, by simpa using h2⟩
theorem Room.of_own {W : World} {base g n cap k : Nat} {e : TypeId} {xs : List Value} (h : W.ownsRow base e k (.slice (some ⟨g, 0, none⟩) n cap) n xs) : Room W g (cap * k) e := by
  rcases h.2 with ⟨e, _⟩ | ⟨g', cap', cur, e, _, hh, _, _, hs, _⟩
  · simp at e
  · simp at e
    obtain ⟨rfl, rfl⟩ := e
    exact ⟨cur, hh, hs⟩
theorem Room.kept {p : Nat → Prop} {W W' : World} {g n : Nat} {e : TypeId} (h : Room W g n e) (hk : Kept p W W') (hp : p g) : Room W' g n e := by
  obtain ⟨cur, h1, h2⟩ := h.at_
  exact ⟨cur, hk.obj hp h1, h2⟩
theorem rown_low {base base' : Nat} {e : TypeId} {k : Nat} {v : Value} {n : Nat} {xs : List Value} {w : World} (h : w.ownsRow base e k v n xs) (hb : base' ≤ base) : w.ownsRow base' e k v n xs := by
  refine ⟨h.1, ?_⟩
  rcases h.2 with h' | ⟨g, cap, cur, h1, h2, r⟩
  · exact .inl h'
  · exact .inr ⟨g, cap, cur, h1, Nat.le_trans hb h2, r⟩
theorem addp_at (g o j : Nat) : (⟨g, o, none⟩ : Addr).add j = ⟨g, o + j, none⟩ := Addr.add_mid _ _ _
theorem Room.setCells {g n : Nat} {e : TypeId} : ∀ (vs : List Value) (o : Nat) {W : World}, Room W g n e → Room (W.setCells g o vs) g n e
  | [], _, _, h => h
  | v :: r, o, _, h => Room.setCells r (o + 1) (h.set o v)
theorem Room.there {W : World} {g n o k : Nat} {e : TypeId} (h : Room W g n e) (ho : o + k ≤ n) : W.there g o k := fun j hj => by
  obtain ⟨⟨x, hx⟩, hf⟩ := h.cell (o + j) (by omega)
  exact ⟨by rw [hx]; rfl, hf⟩
theorem range_block {W : World} {g : Nat} {cs : List Value} {e : TypeId} {fr : Nat × Nat} (h : W.heap[g]? = some (.cells cs.toArray e fr)) : W.rangeAt g 0 cs := fun j v hv => by
  rw [Nat.zero_add, cell_of_row W g j _ _ _ h]
  simpa using hv
section
variable {α : Type} {k : Nat} {C : α → List Value}
theorem rowR_two (l : List α) (f : α) : rowR C (l ++ [f, f]) = rowR C l ++ rowR C [f, f] := by simp [rowR]
theorem amp_cell (hC : ∀ t, (C t).length = k) {base g : Nat} {T : TypeId} {w : World} {l : List α} {f : α} (h : w.ownsRow base T k (.slice (some ⟨g, 0, none⟩) (l.length + 2) (l.length + 3)) (l.length + 2) (rowR C (l ++ [f, f]))) (i : Nat) (t : α) (hi : (l ++ [f, f])[i]? = some t) (r : Nat) (u : Value) (hu : (C t)[r]? = some u) : w.cell? ⟨g, i * k + r, none⟩ = some u := by
  have hr : r < k := by
    have := (List.getElem?_eq_some_iff.1 hu).1
    rwa [hC] at this
  have := World.ownsRow.cells h (g := g) rfl (i * k + r) u (by rw [rowR_get hC _ i r t hi hr]; exact hu)
  rwa [addp_at, Nat.zero_add] at this
theorem amp_rx (hC : ∀ t, (C t).length = k) {base g : Nat} {T : TypeId} {w : World} {l : List α} {f : α} (h : w.ownsRow base T k (.slice (some ⟨g, 0, none⟩) (l.length + 2) (l.length + 3)) (l.length + 2) (rowR C (l ++ [f, f]))) (hl : l.length ≤ 140737488351232) : Rx k C w (.slice (some ⟨g, 0, none⟩) l.length (l.length + 3)) l := by
  refine ⟨.inr ⟨g, 0, l.length + 3, rfl, (h.lt g rfl).2, fun j t hj r u hu => ?_⟩, _, _, _, rfl, by omega, by omega⟩
  rw [Nat.zero_add]
  exact amp_cell hC h j t (by rw [List.getElem?_append_left (List.getElem?_eq_some_iff.1 hj).1]; exact hj) r u hu
theorem amp_fill (hC : ∀ t, (C t).length = k) {base g : Nat} {T : TypeId} {w : World} {l : List α} {f : α} (h : w.ownsRow base T k (.slice (some ⟨g, 0, none⟩) (l.length + 2) (l.length + 3)) (l.length + 2) (rowR C (l ++ [f, f]))) (i : Nat) (hi : i = l.length ∨ i = l.length + 1) (r : Nat) (u : Value) (hu : (C f)[r]? = some u) : w.cell? ⟨g, i * k + r, none⟩ = some u := by
  refine amp_cell hC h i f ?_ r u hu
  rcases hi with rfl | rfl <;> simp
theorem two_rows {W : World} {B : Nat} {T : TypeId} {f : α} (h : W.heap[B]? = some (.cells (rowR C [f, f]).toArray T (0, 0))) : ∀ ad, some (⟨B, 0, none⟩ : Addr) = some ad → ∀ j u, (rowR C [f, f])[j]? = some u → W.cell? (ad.add j) = some u := by
  intro ad e j u hj
  obtain rfl := Option.some.inj e
  rw [addp_at, Nat.zero_add, cell_of_row W B j _ _ _ h]
  simpa using hj
end
end Go.Proofs.Ytllioidjelgafab
