/-
  What ample, stays and spoil of package lumkeep do to numbers.
-/
import Derived.Test.YtoohekdaihhflaaHfCodes
import Derived.Test.YtoohekdaihhflaaHfEq
import Derived.Test.YtoohekdaihhflaaKept
namespace Go.Proofs.Ytoohekdaihhflaa
open Go.RowKit

theorem append_none_c {P : Program} (w : World) (base : Nat) (t ty e : TypeId) (i : TypeInfo) (size : Nat) (ht : P.underlying t = some (.slice e)) (hi : P.info? e = some i) (v : Value) (n : Nat) (xs : List Value) (hown : w.ownsRow base e size v n xs) (c : Nat) :
    (Builtin.append_ #[t, t] ty #[v, .slice none 0 c]).run P w = .ok v w := by
  rcases hown.2 with ⟨rfl, rfl⟩ | ⟨g, cap, cur, rfl, _, _, hnc, _⟩
  · simp [Builtin.append_, run_underlying ht, sizeOf, typeInfo, hi, Builtin.lenOf, Builtin.firstCells]
  · simp [Builtin.append_, run_underlying ht, sizeOf, typeInfo, hi, Builtin.lenOf, Builtin.firstCells, hnc, storeCells]
theorem run_fits_all {P : Program} (w : World) (base : Nat) (t ty e : TypeId) (i : TypeInfo) (size : Nat) (ht : P.underlying t = some (.slice e)) (hi : P.info? e = some i) (hsize : i.size = size)
    (g n cap : Nat) (xs : List Value) (hown : w.ownsRow base e size (.slice (some ⟨g, 0, none⟩) n cap) n xs) (ao : Option Addr) (m c : Nat) (news : List Value) (hl : news.length = m * size) (hnone : ao = none → m = 0)
    (hnews : ∀ ad, ao = some ad → ∀ j u, news[j]? = some u → w.cell? (ad.add j) = some u) (h1 : ∀ u ∈ news, u.oneCell' = true) (hroom : n + m ≤ cap) :
    ∃ w', (Builtin.append_ #[t, t] ty #[.slice (some ⟨g, 0, none⟩) n cap, .slice ao m c]).run P w = .ok (.slice (some ⟨g, 0, none⟩) (n + m) cap) w' ∧
      w'.ownsRow base e size (.slice (some ⟨g, 0, none⟩) (n + m) cap) (n + m) (xs ++ news) ∧ w.grownBy w' (some g) := by
  cases ao with
  | some ad => exact run_append_fits w base t ty e i size ht hi hsize g n cap xs hown ad m c news hl (hnews ad rfl) h1 hroom
  | none =>
    obtain rfl := hnone rfl
    have hnews : news = [] := List.eq_nil_of_length_eq_zero (by simpa using hl)
    subst hnews
    exact ⟨w, append_none_c w base t ty e i size ht hi _ n xs hown c, by simpa using hown, ⟨rfl, rfl, rfl, Nat.le_refl _, fun _ _ _ => rfl⟩⟩
/-- 'append' within the capacity, whatever is appended -/
theorem wpList_fits_all {P : Program} (w : World) {ops : Array Oper} {rest : List Oper} {o : Oper} {a : Act} {Q : Exit → Act → World → Prop}
    (hg : o.guard = none) (s x : Operand) (t : TypeId) (hop : o.op = Op.call { callee := Callee.builtin Builtin.append, args := #[s, x], argTypes := #[t, t] })
    (base : Nat) (e : TypeId) (i : TypeInfo) (size : Nat) (h1 : P.underlying t = some (.slice e)) (h2 : P.info? e = some i) (h4 : i.size = size)
    (g k cap : Nat) (xs : List Value) (hs : a.eval s = .slice (some ⟨g, 0, none⟩) k cap) (hown : w.ownsRow base e size (.slice (some ⟨g, 0, none⟩) k cap) k xs) (ao : Option Addr) (m c : Nat) (news : List Value) (hx : a.eval x = .slice ao m c) (hn : news.length = m * size)
    (hnone : ao = none → m = 0) (hc : ∀ ad, ao = some ad → ∀ j u, news[j]? = some u → w.cell? (ad.add j) = some u) (h1c : ∀ u ∈ news, u.oneCell' = true) (b1 : k + m ≤ cap)
    (hK : ∀ w', w'.ownsRow base e size (.slice (some ⟨g, 0, none⟩) (k + m) cap) (k + m) (xs ++ news) → w.grownBy w' (some g) → wpList P ops Q rest (a.put o.dst (.slice (some ⟨g, 0, none⟩) (k + m) cap)) w') :
    wpList P ops Q (o :: rest) a w := by
  refine wpList_plain hg fun K hK' => ?_
  obtain ⟨w', hrun, r1, r2⟩ := run_fits_all (P := P) w base t o.type e i size h1 h2 h4 g k cap xs hown ao m c news hn hnone hc h1c b1
  unfold Oper.wp
  simp [execOp, hop, resolve, invoke, builtin, hs, hx, hrun, Result.andThen]
  exact hK' _ _ (hK w' r1 r2)
theorem Ints.src {w : World} {a : Option Addr} {n c : Nat} {l : List Int} (h : Ints w (.slice a n c) l) : (a = none → l.length = 0) ∧ ∀ ad, a = some ad → ∀ j u, (l.map Iv)[j]? = some u → w.cell? (ad.add j) = some u := by
  rcases h.at_ with ⟨_, rfl⟩ | ⟨bk, o, cap, h1, h3, h4⟩
  · exact ⟨fun _ => rfl, fun ad _ j u hj => by simp at hj⟩
  · simp at h1
    obtain ⟨rfl, rfl, rfl⟩ := h1
    refine ⟨fun e => by simp at e, fun ad e j u hj => ?_⟩
    obtain rfl := Option.some.inj e
    have hjl : j < l.length := by
      have := (List.getElem?_eq_some_iff.1 hj).1
      simpa using this
    rw [show ((⟨bk, o, none⟩ : Addr).add j) = ⟨bk, o + j, none⟩ from by unfold Addr.add; split <;> simp_all, h4 j hjl]
    rw [List.getElem?_map, List.getElem?_eq_getElem hjl] at hj
    exact hj

theorem iv_one (l : List Int) : ∀ u ∈ l.map Iv, u.oneCell' = true := by
  intro u hu
  obtain ⟨x, _, rfl⟩ := List.mem_map.1 hu
  rfl
theorem pair_at {W : World} {B : Nat} {x y : Value} (h0 : W.cell? ⟨B, 0, none⟩ = some x) (h1 : W.cell? ⟨B, 1, none⟩ = some y) : ∀ j u, ([x, y] : List Value)[j]? = some u → W.cell? ((⟨B, 0, none⟩ : Addr).add j) = some u := by
  intro j u hj
  rw [show ((⟨B, 0, none⟩ : Addr).add j) = ⟨B, j, none⟩ from by unfold Addr.add; split <;> simp_all]
  match j, hj with
  | 0, hj => rw [h0]; exact hj
  | 1, hj => rw [h1]; exact hj

set_option maxHeartbeats 1000000 in
theorem ample_ints (v : Value) (l : List Int) (f : Int) (w : World) (h : Ints w v l) (hl : l.length * 8 ≤ 140737488351232) :
    Calls Try.prog 19 #[v, .int .i64 f] w fun e w' => ∃ g, e = .returned (.slice (some ⟨g, 0, none⟩) l.length (l.length + 3)) ∧ w'.ownsRow w.heap.size 3 1 (.slice (some ⟨g, 0, none⟩) (l.length + 2) (l.length + 3)) (l.length + 2) ((l ++ [f, f]).map Iv) ∧ Below w.heap.size w w' := by
  obtain ⟨i0, hi, hz0, hz1, hz2⟩ := info_parts info_int
  obtain ⟨a, c, rfl⟩ := h.slice
  go_enter Try.func19, Try.ntmps19
  have HS : Hid (∀ w1, w.grownBy w1 none → Below w.heap.size w w1 ∧ ((a = none → l.length = 0) ∧ ∀ ad, a = some ad → ∀ j u, (l.map Iv)[j]? = some u → w1.cell? (ad.add j) = some u)) := fun w1 g1 => by
    have hB1 : Below w.heap.size w w1 := (Below.refl _ _).grown g1 (Nat.le_refl _) (fun k hk => by cases hk)
    exact ⟨hB1, (h.below (Nat.le_refl _) hB1).src⟩
  clear h
  go_wp2_with (first
    | (at_make; refine wpList_make_own _ rfl (.const (.int .i64 0)) (.tmp 8) 22 rfl w.heap.size 3 i0 (.int .i64 0) 1 Try.underlying22 hi hz0 hz1 .i64 .i64 _ (l.length + 3) rfl rfl (by omega) (by rw [hz2]; omega) (by unfold maxLen; omega) (Nat.le_refl _) ?_; intro w1 o1 g1; obtain ⟨hB1, s1, s2⟩ := HS.out w1 g1; clear g1)
    | (at_builtin; refine wpList_fits_all _ rfl (.tmp 9) (.tmp 10) 22 rfl w.heap.size 3 i0 1 Try.underlying22 hi hz1 _ _ _ _ rfl o1 _ _ _ (l.map Iv) rfl (by simp) s1 s2 (iv_one l) (by omega) ?_; intro w2 o2 g2; simp only [Nat.zero_add, List.nil_append] at o2)
    | (at_builtin; refine wpList_append_fits _ rfl (.tmp 11) (.tmp 14) 22 rfl w.heap.size 3 i0 1 Try.underlying22 hi hz1 _ _ _ _ rfl (o2.alloc _) ⟨w2.heap.size, 0, none⟩ 2 2 [.int .i64 f, .int .i64 f] rfl rfl (pair_at (by simp) (by simp)) (by simp [Value.oneCell']) (by omega) ?_; intro w3 o3 g3))
  have hB2 : Below w.heap.size w w2 := hB1.grown g2 hB1.size (fun k hk => by cases hk; exact Nat.le_refl _)
  have hs2 := hB2.size
  have HO : Hid (w3.ownsRow w.heap.size 3 1 (.slice (some ⟨w.heap.size, 0, none⟩) (l.length + 2) (l.length + 3)) (l.length + 2) ((l ++ [f, f]).map Iv)) := by rw [List.map_append]; exact o3
  have HB : Hid (Below w.heap.size w w3) := (hB2.alloc hs2 _).grown g3 (by simp; omega) (fun k hk => by cases hk; exact Nat.le_refl _)
  clear o3 g3 o2 hB2
  go_ret
  exact ⟨_, rfl, HO.out, HB.out⟩

set_option maxHeartbeats 1000000 in
theorem stays_ints (g : Nat) (u : Value) (l : List Int) (f : Int) (w : World) (base : Nat) (h : w.ownsRow base 3 1 (.slice (some ⟨g, 0, none⟩) (l.length + 2) (l.length + 3)) (l.length + 2) ((l ++ [f, f]).map Iv)) (k : Ints w u l) (hl : l.length * 8 ≤ 140737488351232) :
    Calls Try.prog 24 #[.slice (some ⟨g, 0, none⟩) l.length (l.length + 3), u, .int .i64 f] w fun e w' => e = .returned (.bool true) ∧ Below w.heap.size w w' := by
  have hlt : g < w.heap.size := (h.lt g rfl).2
  have c1 := own_at h l.length (by simp)
  have c2 := own_at h (l.length + 1) (by simp)
  have e1 : (l ++ [f, f])[l.length]'(by simp) = f := by simp
  have e2 : (l ++ [f, f])[l.length + 1]'(by simp) = f := by simp
  rw [e1] at c1
  rw [e2] at c2
  have hI : Ints w (.slice (some ⟨g, 0, none⟩) l.length (l.length + 3)) l := ⟨.inr ⟨g, 0, l.length + 3, rfl, hlt, fun j hj => by
    have := own_at h j (by simp; omega)
    rw [Nat.zero_add, this]
    simp [List.getElem_append_left hj]⟩⟩
  have heq := equal_ints _ _ l w hI k (by omega)
  clear h k hI e1 e2
  go_enter Try.func24, Try.ntmps24
  go_wp2_with fail
  refine heq.mono ?_
  rintro e w1 ⟨rfl, hb⟩
  have d1 := (hb.cell (p := ⟨g, l.length, none⟩) hlt).trans c1
  have d2 := (hb.cell (p := ⟨g, l.length + 1, none⟩) hlt).trans c2
  clear heq c1 c2
  go_wp2_with fail
  go_ret
  exact ⟨rfl, hb⟩
/-- a block of cells that may be written, of n and no other one -/
structure Room (W : World) (g n : Nat) (e : TypeId) : Prop where
  at_ : ∃ cur, W.heap[g]? = some (.cells cur e (0, 0)) ∧ cur.size = n
theorem Room.cell {W : World} {g n : Nat} {e : TypeId} (h : Room W g n e) (j : Nat) (hj : j < n) : (∃ x, W.cell? ⟨g, j, none⟩ = some x) ∧ W.frozen? ⟨g, j, none⟩ = false := by
  obtain ⟨cur, h1, h2⟩ := h.at_
  refine ⟨⟨cur[j]'(by omega), ?_⟩, frozen_of_row W g j cur e h1⟩
  rw [cell_of_row W g j cur e (0, 0) h1]
  simp [h2, hj]
theorem Room.set {W : World} {g n : Nat} {e : TypeId} (h : Room W g n e) (j : Nat) (u : Value) : Room (W.setCell ⟨g, j, none⟩ u) g n e := by
  obtain ⟨cur, h1, h2⟩ := h.at_
  exact ⟨_, heap_setCell_same W g j cur e u h1, by simpa using h2⟩
theorem Room.of_own {W : World} {base g n cap k : Nat} {e : TypeId} {xs : List Value} (h : W.ownsRow base e k (.slice (some ⟨g, 0, none⟩) n cap) n xs) : Room W g (cap * k) e := by
  rcases h.2 with ⟨e, _⟩ | ⟨g', cap', cur, e, _, hh, _, _, hs, _⟩
  · simp at e
  · simp at e
    obtain ⟨rfl, rfl⟩ := e
    exact ⟨cur, hh, hs⟩
theorem Room.kept {p : Nat → Prop} {W W' : World} {g n : Nat} {e : TypeId} (h : Room W g n e) (hk : Kept p W W') (hp : p g) : Room W' g n e := by
  obtain ⟨cur, h1, h2⟩ := h.at_
  exact ⟨cur, hk.obj hp h1, h2⟩

set_option maxHeartbeats 1000000 in
theorem spoil_ints (g n c : Nat) (f : Int) (w : World) (h : Room w g c 3) (hc : c ≤ 9223372036854775807) :
    Calls Try.prog 28 #[.slice (some ⟨g, 0, none⟩) n c, .int .i64 f] w fun e w' => e = .returned (.tuple #[]) ∧ Kept (fun q => q ≠ g) w w' := by
  go_enter Try.func28, Try.ntmps28
  go_wp2_with fail
  go_loopw [11] (fun i wr => ∃ k : Nat, k ≤ c ∧ i = .int .i64 k ∧ Hid (Room wr g c 3) ∧ Hid (Kept (fun q => q ≠ g) w wr)) (fun i _ => c - (intOf i).toNat)
  case atStart => exact ⟨0, by omega, rfl, h, Kept.refl _ _⟩
  case round =>
    obtain ⟨k, hk, rfl, hr, hkp⟩ := hrel
    by_cases hlt : k < c
    · obtain ⟨⟨x, x1⟩, x2⟩ := hr.out.cell k hlt
      have HR : Hid (Room (wr.setCell ⟨g, k, none⟩ (.int .i64 f)) g c 3) := hr.out.set k _
      have HK : Hid (Kept (fun q => q ≠ g) w (wr.setCell ⟨g, k, none⟩ (.int .i64 f))) := hkp.out.setCell (by simp) _
      clear hr hkp
      go_wp2_with fail
      go_roundw
      case rel => exact ⟨k + 1, by omega, by go_num, HR, HK⟩
      case measure => simp only [intOf]; omega
    · go_wp2_with fail
      go_end0
      exact ⟨rfl, hkp.out⟩
end Go.Proofs.Ytoohekdaihhflaa
