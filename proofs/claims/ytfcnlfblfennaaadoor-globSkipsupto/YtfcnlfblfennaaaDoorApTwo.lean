/-
  Two rows of numbers of one's own, each with a number more: an order that is drawn makes no difference.
-/
import Derived.Test.YtfcnlfblfennaaaDoorNuMem
import Derived.Test.YtfcnlfblfennaaaDoorRelNew
import Derived.Laws.AppendOwn
import Derived.ArgAppend
namespace Go.Proofs.YtfcnlfblfennaaaDoor
open Go.RowKit

theorem info_i64 : (Tryd.prog.info? 3).map (fun i => (i.zero, i.size, i.bytes)) = some (some (.int .i64 0), 1, 8) := by kernel_rfl
theorem info_is {P : Program} {e : TypeId} {z : Option Value} {s b : Nat} (h : (P.info? e).map (fun i => (i.zero, i.size, i.bytes)) = some (z, s, b)) : ∃ i, P.info? e = some i ∧ i.zero = z ∧ i.size = s ∧ i.bytes = b := by
  cases hi : P.info? e with
  | none => rw [hi] at h; cases h
  | some i =>
    rw [hi] at h
    simp only [Option.map_some, Option.some.injEq, Prod.mk.injEq] at h
    exact ⟨i, rfl, h.1, h.2.1, h.2.2⟩
/-- a row of numbers of one's own -/
abbrev Ow (W : World) (B : Nat) (v : Value) (xs : List Value) : Prop := W.ownsRow B 3 1 v xs.length xs
theorem Ow.at_ {W : World} {B : Nat} {v : Value} {xs : List Value} (h : Ow W B v xs) {g : Nat} (hg : v.ownBlock = some g) :
    ∃ cap cur, v = .slice (some ⟨g, 0, none⟩) xs.length cap ∧ B ≤ g ∧ W.heap[g]? = some (.cells cur 3 (0, 0)) ∧ xs.length ≤ cap ∧ cap ≤ maxLen ∧ cur.size = cap ∧ cur.toList.take xs.length = xs := by
  rcases h.2 with ⟨rfl, _⟩ | ⟨g', cap, cur, rfl, hb, hh, hle, hm, hs, htk⟩
  · simp [Value.ownBlock] at hg
  · simp [Value.ownBlock] at hg
    subst hg
    exact ⟨cap, cur, rfl, hb, hh, hle, hm, by simpa using hs, by simpa using htk⟩
theorem Ow.mk {W : World} {B g cap : Nat} {cur : Array Value} {xs : List Value} (hb : B ≤ g) (hh : W.heap[g]? = some (.cells cur 3 (0, 0))) (hle : xs.length ≤ cap) (hm : cap ≤ maxLen) (hs : cur.size = cap) (htk : cur.toList.take xs.length = xs) : Ow W B (.slice (some ⟨g, 0, none⟩) xs.length cap) xs :=
  ⟨by simp, .inr ⟨g, cap, cur, rfl, hb, hh, hle, hm, by simpa using hs, by simpa using htk⟩⟩
/-- a number more: where it lies, and what stays -/
structure App (W W' : World) (B : Nat) (v v' : Value) (xs : List Value) (x : Value) : Prop where
  own : Ow W' B v' (xs ++ [x])
  blk : v'.ownBlock = v.ownBlock ∨ ∃ g, v'.ownBlock = some g ∧ W.heap.size ≤ g
  kept : Kept (fun k => some k ≠ v.ownBlock) W W'
  rows : ∀ u zs g, u.ownBlock = some g → v.ownBlock = some g → zs <+: xs ++ [x] → Ow W B u zs → Ow W' B u zs
theorem app_num {W : World} {B : Nat} {v : Value} {xs : List Value} (h : Ow W B v xs) (ty : TypeId) (ad : Addr) (c : Nat) (x : Value) (hx : W.cell? ad = some x) (h1 : x.oneCell' = true) (hl : xs.length ≤ 4194304) (hB : B ≤ W.heap.size) :
    ∃ v' W', (Builtin.append_ #[41, 41] ty #[v, .slice (some ad) 1 c]).run Tryd.prog W = .ok v' W' ∧ App W W' B v v' xs x := by
  obtain ⟨i0, hi, hz0, hz1, hz2⟩ := info_is info_i64
  have hnews : ∀ j u, [x][j]? = some u → W.cell? (ad.add j) = some u := fun j u hj => by
    match j, hj with
    | 0, hj =>
      simp at hj; subst hj
      have : ad.add 0 = ad := by
        obtain ⟨b, o, s⟩ := ad
        unfold Addr.add; split <;> simp_all
      rw [this]; exact hx
  have h1' : ∀ u ∈ [x], u.oneCell' = true := fun u hu => by rw [List.mem_singleton.1 hu]; exact h1
  have fresh : ∀ {v' : Value} {W' : World}, W'.ownsRow W.heap.size 3 1 v' (xs.length + 1) (xs ++ [x]) → W.grownBy W' none → App W W' B v v' xs x := fun {v' W'} h2 h3 => by
    have ho : Ow W' W.heap.size v' (xs ++ [x]) := by
      unfold Ow
      rw [List.length_append]
      exact h2
    refine ⟨own_lower ho hB, .inr ?_, ⟨h3.os, h3.tape, h3.output, h3.size, fun k hk _ => h3.block k hk (by simp)⟩, fun u zs g hu _ _ hz => ?_⟩
    · rcases ho.2 with ⟨_, h0⟩ | ⟨g, cap, cur, e, hb, hh, _⟩
      · rw [List.length_append] at h0; simp at h0
      · exact ⟨g, by rw [e]; rfl, hb⟩
    · exact own_kept hz (p := fun _ => True) ⟨h3.os, h3.tape, h3.output, h3.size, fun k hk _ => h3.block k hk (by simp)⟩ fun _ _ => trivial
  cases hv : v.ownBlock with
  | none =>
    have hv0 : v = .slice none 0 0 ∧ xs = [] := by
      rcases h.2 with ⟨e, h0⟩ | ⟨g, cap, cur, e, _⟩
      · exact ⟨e, List.length_eq_zero_iff.1 h0⟩
      · rw [e] at hv; simp [Value.ownBlock] at hv
    obtain ⟨rfl, rfl⟩ := hv0
    obtain ⟨v', W', hr, h2, h3, _⟩ := run_append_own (P := Tryd.prog) W W.heap.size 41 ty 3 i0 (.int .i64 0) 1 8 Tryd.underlying41 hi hz0 hz1 hz2 rfl (by decide) (.slice none 0 0) 0 [] (World.ownsRow_nil W _ _ _) ad 1 c [x] rfl hnews h1' (by unfold maxLen; omega) (by omega) (Nat.le_refl _)
    exact ⟨v', W', hr, fresh h2 h3⟩
  | some g =>
    obtain ⟨cap, cur, rfl, hb, hh, hle, hm, hs, htk⟩ := h.at_ hv
    by_cases hroom : xs.length + 1 ≤ cap
    · have hr := run_append_room (P := Tryd.prog) W 41 ty 3 i0 Tryd.underlying41 hi g xs.length cap cur hh ad 1 c [x] (by rw [hz1]; rfl) hnews h1' hroom (by rw [hz1, hs]; simpa using hroom)
      rw [hz1, Nat.mul_one] at hr
      obtain ⟨nc, hnc⟩ : ∃ nc, nc = (cur.toList.take xs.length ++ [x] ++ cur.toList.drop (xs.length + [x].length)).toArray := ⟨_, rfl⟩
      rw [← hnc] at hr
      have hcl : cur.toList.length = cap := by simpa using hs
      have hns : nc.size = cap := by
        rw [hnc]
        simp only [List.size_toArray, List.length_append, List.length_take, List.length_drop, List.length_cons, List.length_nil]
        omega
      have hnt : nc.toList.take (xs ++ [x]).length = xs ++ [x] := by
        rw [hnc, htk]
        show (xs ++ [x] ++ _).take _ = _
        rw [List.take_left' rfl]
      have hg2 := setRow_heap W g cur nc 3 (0, 0) hh
      have hoth : ∀ k, k ≠ g → (W.setRow g nc).heap[k]? = W.heap[k]? := fun k hk => by
        unfold World.setRow
        simp [Array.getElem?_modify, Ne.symm hk]
      have hsz : (W.setRow g nc).heap.size = W.heap.size := by unfold World.setRow; simp
      refine ⟨_, _, hr, ⟨?_, .inl rfl, ⟨rfl, rfl, rfl, by rw [hsz]; exact Nat.le_refl _, fun k hk hne => hoth k fun e => hne (by rw [e]; rfl)⟩, fun u zs g' hu hg' hp hz => ?_⟩⟩
      · have := Ow.mk (W := W.setRow g nc) (B := B) (xs := xs ++ [x]) hb hg2 (by simpa using hroom) hm hns hnt
        rw [List.length_append] at this
        exact this
      · obtain rfl : g = g' := by simpa [Value.ownBlock] using hg'
        obtain ⟨cap', cur', rfl, hb', hh', hle', hm', hs', htk'⟩ := Ow.at_ hz hu
        rw [hh] at hh'
        simp only [Option.some.injEq, Obj.cells.injEq, and_true] at hh'
        subst hh'
        obtain rfl : cap = cap' := by omega
        refine Ow.mk hb hg2 hle' hm hns ?_
        obtain ⟨r, hr'⟩ := hp
        have hzl : zs.length ≤ (xs ++ [x]).length := by rw [← hr', List.length_append]; omega
        have := congrArg (List.take zs.length) hnt
        rw [List.take_take, Nat.min_eq_left hzl] at this
        rw [this, ← hr', List.take_left' rfl]
    · have hcell : ∀ j u, xs[j]? = some u → W.cell? ((⟨g, 0, none⟩ : Addr).add j) = some u := fun j u hj => by
        have hjl := (List.getElem?_eq_some_iff.1 hj).1
        rw [add_at, Nat.zero_add, World.ownsRow.cellAt h j (by omega)]
        exact hj
      obtain ⟨v', W', hr, h2, h3⟩ := run_append_arg_grows (P := Tryd.prog) W 41 ty 3 i0 (.int .i64 0) 1 8 Tryd.underlying41 hi hz0 hz1 hz2 rfl (by decide) ⟨g, 0, none⟩ xs.length cap xs (by simp) hcell ad 1 c [x] rfl hnews (by omega) (by unfold maxLen; omega) (by omega)
      exact ⟨v', W', hr, fresh h2 h3⟩
/-- what stays while both rows get a number more -/
structure G2 (B : Nat) (p1 p2 : Option Nat) (X Y : List Value) (W W' : World) : Prop where
  kept : Kept (fun k => some k ≠ p1 ∧ some k ≠ p2) W W'
  r1 : ∀ u zs g, u.ownBlock = some g → p1 = some g → zs <+: X → Ow W B u zs → Ow W' B u zs
  r2 : ∀ u zs g, u.ownBlock = some g → p2 = some g → zs <+: Y → Ow W B u zs → Ow W' B u zs
theorem G2.refl (B : Nat) (p1 p2 : Option Nat) (X Y : List Value) (W : World) : G2 B p1 p2 X Y W W := ⟨Kept.refl _ _, fun _ _ _ _ _ _ h => h, fun _ _ _ _ _ _ h => h⟩
theorem G2.trans (B : Nat) (p1 p2 : Option Nat) (X Y : List Value) (W W' W'' : World) (h : G2 B p1 p2 X Y W W') (k : G2 B p1 p2 X Y W' W'') : G2 B p1 p2 X Y W W'' :=
  ⟨h.kept.trans k.kept, fun u zs g a b c d => k.r1 u zs g a b c (h.r1 u zs g a b c d), fun u zs g a b c d => k.r2 u zs g a b c (h.r2 u zs g a b c d)⟩
theorem G2.of_gw {B : Nat} {p1 p2 : Option Nat} {X Y : List Value} {W W' : World} (h : Gw W W') : G2 B p1 p2 X Y W W' :=
  ⟨Kept.of_below h, fun _ _ _ _ _ _ k => own_below k h, fun _ _ _ _ _ _ k => own_below k h⟩
theorem G2.one {B : Nat} {v1 v2 v' : Value} {xs Y : List Value} {x : Value} {W W' : World} (h : App W W' B v1 v' xs x) (hne : ∀ g, v1.ownBlock = some g → v2.ownBlock ≠ some g) : G2 B v1.ownBlock v2.ownBlock (xs ++ [x]) Y W W' :=
  ⟨h.kept.mono fun _ hk => hk.1, h.rows, fun u zs g hu hg _ hz => own_kept hz h.kept fun k hk e => hne k e.symm (by rw [hu] at hk; cases hk; exact hg)⟩
theorem G2.two {B : Nat} {v1 v2 v' : Value} {X ys : List Value} {y : Value} {W W' : World} (h : App W W' B v2 v' ys y) (hne : ∀ g, v1.ownBlock = some g → v2.ownBlock ≠ some g) : G2 B v1.ownBlock v2.ownBlock X (ys ++ [y]) W W' :=
  ⟨h.kept.mono fun _ hk => hk.2, fun u zs g hu hg _ hz => own_kept hz h.kept fun k hk e => hne g hg (by rw [hu] at hk; cases hk; exact e.symm), h.rows⟩
end Go.Proofs.YtfcnlfblfennaaaDoor
