/-
  Bunches of signs as they lie in memory; what has and least of package lumref answer.
-/
import Derived.Test.YtoohekdaihhflaaHfLen
import Derived.Test.YtoohekdaihhflaaHfCodes
import Derived.Test.YtoohekdaihhflaaKept
import Derived.Test.YtoohekdaihhflaaQuietSince
import Derived.BigQuiet
namespace Go.Proofs.Ytoohekdaihhflaa
open Go.RowKit

set_option maxHeartbeats 1000000 in
theorem has_any (v : Value) (s : List Nat) (n : Nat) (w : World) (h : Ints w v (Hf.up s)) (hs : s.length ≤ 256) :
    Calls Try.prog 37 #[v, .int .i64 n] w fun e w' => e = .returned (.bool (decide (n ∈ s))) ∧ w' = w := by
  obtain ⟨a, c, rfl⟩ := h.slice
  rw [Hf.up_length] at h ⊢
  go_enter Try.func37, Try.ntmps37
  go_wp2_with fail
  go_loop [9] (fun i => ∃ k : Nat, k ≤ s.length ∧ i = .int .i64 k ∧ Hid (n ∉ s.take k)) (fun i => s.length - (intOf i).toNat)
  case atStart => exact ⟨0, by omega, rfl, (show n ∉ s.take 0 from by simp)⟩
  case round =>
    obtain ⟨k, hk, rfl, hno⟩ := hrel
    by_cases hlt : k < s.length
    · obtain ⟨bk, o, rfl, hbk, c0⟩ := h.getN k hlt
      have hg : s.getD k 0 = s[k] := by rw [List.getD_eq_getElem?_getD, List.getElem?_eq_getElem hlt]; rfl
      by_cases he : s.getD k 0 = n
      · have HD : Hid (decide (n ∈ s) = true) := decide_eq_true (by rw [← he, hg]; exact List.getElem_mem hlt)
        have hb : ((s.getD k 0 : Int) == (n : Int)) = true := by rw [he]; simp
        clear he hg h
        generalize s.getD k 0 = x at *
        go_wp2_with fail
        go_ret
        exact ⟨by rw [HD.out]; rfl, rfl⟩
      · have hb : ((s.getD k 0 : Int) == (n : Int)) = false := by simp; simp at he; omega
        have HN : Hid (n ∉ s.take (k + 1)) := by
          rw [List.take_succ_eq_append_getElem hlt]
          intro hm
          rcases List.mem_append.1 hm with hm | hm
          · exact hno.out hm
          · rw [hg] at he
            exact he (List.mem_singleton.1 hm).symm
        clear he hg
        generalize s.getD k 0 = x at *
        go_wp2_with fail
        go_round
        case rel => exact ⟨k + 1, by omega, by go_num, HN⟩
        case measure => simp only [intOf]; omega
    · have HD : Hid (decide (n ∈ s) = false) := decide_eq_false (by have := hno.out; rwa [List.take_of_length_le (by omega)] at this)
      go_wp2_with fail
      go_ret
      exact ⟨by rw [HD.out]; rfl, rfl⟩

theorem own_kept' {p : Nat → Prop} {base : Nat} {e : TypeId} {k : Nat} {v : Value} {n : Nat} {xs : List Value} {w w' : World} (h : w.ownsRow base e k v n xs) (hk : Kept p w w') (hp : ∀ g, base ≤ g → p g) : w'.ownsRow base e k v n xs := by
  obtain ⟨h1, h2⟩ := h
  refine ⟨h1, ?_⟩
  rcases h2 with h2 | ⟨g, cap, cur, hv, hg, hh, r⟩
  · exact .inl h2
  · refine .inr ⟨g, cap, cur, hv, hg, ?_, r⟩
    rw [hk.block g (Array.getElem?_eq_some_iff.1 hh).1 (hp g hg), hh]
def bC (g : Hf.G) : List Value := [.int .i64 g.wt, g.sv]
def rowB (l : List Hf.G) : List Value := l.flatMap bC
theorem rowB_length (l : List Hf.G) : (rowB l).length = 2 * l.length := by
  induction l with
  | nil => rfl
  | cons t l ih => show (bC t ++ rowB l).length = _; rw [List.length_append, ih, List.length_cons]; simp [bC]; omega
theorem rowB_more (l : List Hf.G) (t : Hf.G) : rowB (l ++ [t]) = rowB l ++ bC t := by simp [rowB]
theorem rowB_get (l : List Hf.G) (i r : Nat) (hi : i < l.length) (hr : r < 2) : (rowB l)[2 * i + r]? = (bC (Hf.nth l i))[r]? := by
  rw [Hf.nth_get hi]
  induction l generalizing i with
  | nil => simp at hi
  | cons t l ih =>
    show (bC t ++ rowB l)[2 * i + r]? = _
    cases i with
    | zero => rw [List.getElem?_append_left (by simp [bC]; omega)]; simp
    | succ i =>
      rw [List.getElem?_append_right (by simp [bC]; omega), show 2 * (i + 1) + r - (bC t).length = 2 * i + r from by simp [bC]; omega, ih i (by simpa using hi)]
      rfl
/-- a list of bunches v, each with its signs in a row of their own, the least one first -/
structure Bun (W : World) (base : Nat) (v : Value) (l : List Hf.G) : Prop where
  row : W.ownsRow base 60 2 v l.length (rowB l)
  signs : ∀ g ∈ l, W.ownsRow base 3 1 g.sv g.sg.length ((Hf.up g.sg).map Iv)
  low : ∀ g ∈ l, 1 ≤ g.sg.length ∧ g.sg.getD 0 0 = g.low
theorem Bun.keep {W W' : World} {base : Nat} {v : Value} {l : List Hf.G} (h : Bun W base v l) (hb : Below W.heap.size W W') : Bun W' base v l :=
  ⟨row_below h.row hb, fun g hg => row_below (h.signs g hg) hb, h.low⟩
theorem Bun.slice {W : World} {base : Nat} {v : Value} {l : List Hf.G} (h : Bun W base v l) (hl : 0 < l.length) : ∃ g c, v = .slice (some ⟨g, 0, none⟩) l.length c := by
  rcases h.row.2 with ⟨_, h0⟩ | ⟨g, cap, cur, rfl, _⟩
  · omega
  · exact ⟨_, _, rfl⟩
/-- the signs of one of them: their slice, and the first one -/
theorem Bun.sign {W : World} {base : Nat} {v : Value} {l : List Hf.G} (h : Bun W base v l) {x : Hf.G} (hx : x ∈ l) : ∃ b c, x.sv = .slice (some ⟨b, 0, none⟩) x.sg.length c ∧ b < W.heap.size ∧ W.cell? ⟨b, 0, none⟩ = some (.int .i64 x.low) := by
  have hs := h.signs x hx
  obtain ⟨h1, h2⟩ := h.low x hx
  rcases hs.2 with ⟨_, h0⟩ | ⟨b, cap, cur, e, _, hh, _⟩
  · omega
  · refine ⟨b, cap, e, (Array.getElem?_eq_some_iff.1 hh).1, ?_⟩
    rw [e] at hs
    have := own_at hs 0 (by rw [Hf.up_length]; exact h1)
    rw [Hf.up_get, h2] at this
    exact this
theorem Bun.at_ {W : World} {base g n c : Nat} {l : List Hf.G} (h : Bun W base (.slice (some ⟨g, 0, none⟩) n c) l) (hn : n = l.length) (i : Nat) (hi : i < l.length) :
    W.cell? ⟨g, i * 2, none⟩ = some (.int .i64 (Hf.nth l i).wt) ∧ W.cell? ⟨g, i * 2 + 1, none⟩ = some (Hf.nth l i).sv ∧ g < W.heap.size := by
  subst hn
  have e := fun r (hr : r < 2) => (h.row.cellAt (2 * i + r) (by omega)).trans (rowB_get l i r hi hr)
  have e0 := e 0 (by omega)
  have e1 := e 1 (by omega)
  rw [show 2 * i = i * 2 from by omega] at e0 e1
  refine ⟨e0, e1, ?_⟩
  rcases h.row.2 with ⟨h1, _⟩ | ⟨g', cap, cur, h1, _, hh, _⟩
  · simp at h1
  · simp at h1
    rw [h1.1]
    exact (Array.getElem?_eq_some_iff.1 hh).1
namespace Hf
/-- which one of the first i comes first -/
def amin (l : List G) : Nat → Nat
  | 0 => 0
  | i + 1 => if ltG (nth l i) (nth l (amin l i)) = true then i else amin l i
theorem amin_le (l : List G) (i : Nat) : amin l i ≤ i := by
  induction i with
  | zero => exact Nat.le_refl _
  | succ i ih => unfold amin; split <;> omega
theorem amin_lt (l : List G) (i : Nat) (h : 0 < i) : amin l i < i := by
  cases i with
  | zero => omega
  | succ i => unfold amin; have := amin_le l i; split <;> omega
theorem amin_first (l : List G) (i : Nat) : ∀ j, j < i → ltG (nth l j) (nth l (amin l i)) = false := by
  induction i with
  | zero => intro j h; omega
  | succ i ih =>
    intro j hj
    unfold amin
    by_cases h : ltG (nth l i) (nth l (amin l i)) = true
    · rw [if_pos h]
      by_cases e : j = i
      · subst e; exact ge_refl _
      · exact ge_trans (lt_ge h) (ih j (by omega))
    · rw [if_neg h]
      by_cases e : j = i
      · subst e; exact Bool.eq_false_iff.2 h
      · exact ih j (by omega)
theorem amin_mem (l : List G) : ∀ c ∈ l, ltG c (nth l (amin l l.length)) = false := by
  intro c hc
  obtain ⟨i, hi, rfl⟩ := List.getElem_of_mem hc
  rw [← nth_get hi]
  exact amin_first l l.length i hi
/-- the first i of them, without the k-th -/
def rest (l : List G) (k i : Nat) : List G := (l.take i).eraseIdx k
theorem rest_skip (l : List G) (k : Nat) (hk : k < l.length) : rest l k (k + 1) = rest l k k := by
  unfold rest
  rw [List.take_succ_eq_append_getElem hk, List.eraseIdx_append_of_length_le (by rw [List.length_take]; omega), List.eraseIdx_of_length_le (l := l.take k) (by rw [List.length_take]; omega), List.length_take,
    show k - min k l.length = 0 by omega]
  simp
theorem rest_more (l : List G) (k i : Nat) (hi : i < l.length) (hne : i ≠ k) : rest l k (i + 1) = rest l k i ++ [nth l i] := by
  unfold rest
  rw [nth_get hi, List.take_succ_eq_append_getElem hi]
  by_cases h : k < i
  · rw [List.eraseIdx_append_of_lt_length (by rw [List.length_take]; omega)]
  · rw [List.eraseIdx_append_of_length_le (by rw [List.length_take]; omega)]
    rw [List.eraseIdx_of_length_le (l := l.take i) (by rw [List.length_take]; omega), List.eraseIdx_of_length_le (by rw [List.length_take]; simp; omega)]
theorem rest_length (l : List G) (k i : Nat) : (rest l k i).length ≤ i := by
  unfold rest
  have h1 := List.length_eraseIdx_le (l.take i) k
  rw [List.length_take] at h1
  omega
theorem rest_perm (l : List G) (k : Nat) (hk : k < l.length) : l.Perm (nth l k :: rest l k l.length) := by
  unfold rest
  rw [List.take_length, nth_get hk, List.eraseIdx_eq_take_drop_succ]
  conv => lhs; rw [← List.take_append_drop k l, List.drop_eq_getElem_cons hk]
  exact List.perm_middle
end Hf
/-- a bunch in a block of its own -/
structure BBox (W : World) (G : Nat) (x : Hf.G) : Prop where
  c0 : W.cell? ⟨G, 0, none⟩ = some (.int .i64 x.wt)
  c1 : W.cell? ⟨G, 1, none⟩ = some x.sv
  f0 : W.frozen? ⟨G, 0, none⟩ = false
  f1 : W.frozen? ⟨G, 1, none⟩ = false
  lt : G < W.heap.size
theorem BBox.new (w : World) (x : Hf.G) : BBox (w.alloc (.cells #[.int .i64 x.wt, x.sv] 60)) w.heap.size x := ⟨by simp, by simp, by simp, by simp, by simp⟩
theorem BBox.kept {p : Nat → Prop} {W W' : World} {G : Nat} {x : Hf.G} (h : BBox W G x) (hk : Kept p W W') (hp : p G) : BBox W' G x := by
  have e := hk.block G h.lt hp
  refine ⟨?_, ?_, ?_, ?_, Nat.lt_of_lt_of_le h.lt hk.size⟩
  · rw [World.cell?_of_block (a := ⟨G, 0, none⟩) e]; exact h.c0
  · rw [World.cell?_of_block (a := ⟨G, 1, none⟩) e]; exact h.c1
  · rw [World.frozen?_of_block (a := ⟨G, 0, none⟩) e]; exact h.f0
  · rw [World.frozen?_of_block (a := ⟨G, 1, none⟩) e]; exact h.f1
theorem BBox.below {W W' : World} {G B : Nat} {x : Hf.G} (h : BBox W G x) (hb : Below B W W') (hg : G < B) : BBox W' G x :=
  h.kept (p := fun k => k < B) ⟨hb.os, hb.tape, hb.output, hb.size, fun k _ hk => hb.block k hk⟩ hg
theorem info_bunch : (Try.prog.info? 60).map (fun i => (i.zero, i.size, i.bytes)) = some (some (.agg #[.int .i64 0, .slice none 0 0]), 2, 32) := by kernel_rfl
theorem Hf.amin_next (l : List Hf.G) (i : Nat) : Hf.amin l (i + 1) = if Hf.ltG (Hf.nth l i) (Hf.nth l (Hf.amin l i)) = true then i else Hf.amin l i := rfl
theorem two_at {W : World} {B : Nat} {x : Hf.G} (h0 : W.cell? ⟨B, 0, none⟩ = some (.int .i64 x.wt)) (h1 : W.cell? ⟨B, 1, none⟩ = some x.sv) : ∀ j u, (bC x)[j]? = some u → W.cell? ((⟨B, 0, none⟩ : Addr).add j) = some u := by
  intro j u hj
  rw [show ((⟨B, 0, none⟩ : Addr).add j) = ⟨B, j, none⟩ from by unfold Addr.add; split <;> simp_all]
  match j, hj with
  | 0, hj => rw [h0]; exact hj
  | 1, hj => rw [h1]; exact hj

set_option maxHeartbeats 4000000 in
theorem least_any (base : Nat) (v : Value) (l : List Hf.G) (w : World) (h : Bun w base v l) (hbase : base ≤ w.heap.size) (h0 : 0 < l.length) (hl : l.length ≤ 256) :
    Calls Try.prog 36 #[v] w fun e w' => ∃ v', e = .returned (.tuple #[.agg #[.int .i64 (Hf.nth l (Hf.amin l l.length)).wt, (Hf.nth l (Hf.amin l l.length)).sv], v']) ∧ Bun w' base v' (Hf.rest l (Hf.amin l l.length) l.length) ∧ (∀ b, v'.ownBlock = some b → w.heap.size ≤ b) ∧ Below w.heap.size w w' := by
  obtain ⟨i0, hi, hz0, hz1, hz2⟩ := info_parts info_bunch
  obtain ⟨g, c, rfl⟩ := h.slice h0
  obtain ⟨W1, hW1⟩ : ∃ W1, W1 = w.alloc (.cells #[.int .i64 0, .slice none 0 0] 60) := ⟨_, rfl⟩
  have HB1 : Hid (Below w.heap.size w W1) := by rw [hW1]; exact (Below.refl _ w).alloc (Nat.le_refl _) _
  have HX1 : Hid (BBox W1 w.heap.size Hf.G.z) := by rw [hW1]; exact BBox.new w Hf.G.z
  go_enter Try.func36, Try.ntmps36
  go_wp2_with fail
  rw [← hW1]
  clear hW1
  go_loopw [4, 12] (fun x y wr => ∃ i : Nat, i ≤ l.length ∧ y = .int .i64 i ∧ x = .int .i64 (Hf.amin l i : Nat) ∧ Hid (Below W1.heap.size W1 wr)) (fun _ y _ => l.length - (intOf y).toNat)
  case atStart => exact ⟨0, by omega, rfl, rfl, Below.refl _ _⟩
  case round =>
    obtain ⟨i, hil, rfl, rfl, hbel⟩ := hrel
    have hB : Below w.heap.size w wr := HB1.out.trans (hbel.out.mono HB1.out.size)
    by_cases hlt : i < l.length
    · have hk := Hf.amin_le l i
      have HN : Hid (_) := Hf.amin_next l i
      have hh := h.keep hB
      obtain ⟨a0, a1, hg⟩ := hh.at_ rfl i hlt
      obtain ⟨b0, b1, _⟩ := hh.at_ rfl (Hf.amin l i) (by omega)
      obtain ⟨sb, sc, es, hsb, s0⟩ := hh.sign (Hf.nth_mem hlt)
      obtain ⟨tb, tc, et, htb, t0⟩ := hh.sign (Hf.nth_mem (show Hf.amin l i < l.length by omega))
      have hsl := (hh.low _ (Hf.nth_mem hlt)).1
      have htl := (hh.low _ (Hf.nth_mem (show Hf.amin l i < l.length by omega))).1
      generalize Hf.amin l i = k at *
      generalize Hf.nth l i = x at *
      generalize Hf.nth l k = y at *
      rw [es] at a1
      rw [et] at b1
      generalize x.sg.length = xn at *
      generalize y.sg.length = yn at *
      obtain ⟨W2, hW2⟩ : ∃ W2, W2 = wr.alloc (.cells #[.int .i64 x.wt, .slice (some ⟨sb, 0, none⟩) xn sc] 60) := ⟨_, rfl⟩
      have hb2 : Below wr.heap.size wr W2 := by rw [hW2]; exact (Below.refl _ _).alloc (Nat.le_refl _) _
      have x0 : ∀ X : Since W2.heap.size W2, X.val.cell? ⟨wr.heap.size, 0, none⟩ = some (.int .i64 (x.wt : Int)) := fun X => (X.property.cell (p := ⟨wr.heap.size, 0, none⟩) (by rw [hW2]; simp)).trans (by rw [hW2]; simp)
      have x1 : ∀ X : Since W2.heap.size W2, X.val.cell? ⟨wr.heap.size, 1, none⟩ = some (.slice (some ⟨sb, 0, none⟩) xn sc) := fun X => (X.property.cell (p := ⟨wr.heap.size, 1, none⟩) (by rw [hW2]; simp)).trans (by rw [hW2]; simp)
      have hz2' := hb2.size
      have y0 : ∀ X : Since W2.heap.size W2, X.val.cell? ⟨g, k * 2, none⟩ = some (.int .i64 (y.wt : Int)) := fun X => (X.property.cell (p := ⟨g, k * 2, none⟩) (by show g < _; omega)).trans ((hb2.cell (p := ⟨g, k * 2, none⟩) hg).trans b0)
      have y1 : ∀ X : Since W2.heap.size W2, X.val.cell? ⟨g, k * 2 + 1, none⟩ = some (.slice (some ⟨tb, 0, none⟩) yn tc) := fun X => (X.property.cell (p := ⟨g, k * 2 + 1, none⟩) (by show g < _; omega)).trans ((hb2.cell (p := ⟨g, k * 2 + 1, none⟩) hg).trans b1)
      have s1 : ∀ X : Since W2.heap.size W2, X.val.cell? ⟨sb, 0, none⟩ = some (.int .i64 (x.low : Int)) := fun X => (X.property.cell (p := ⟨sb, 0, none⟩) (by show sb < _; omega)).trans ((hb2.cell (p := ⟨sb, 0, none⟩) hsb).trans s0)
      have t1 : ∀ X : Since W2.heap.size W2, X.val.cell? ⟨tb, 0, none⟩ = some (.int .i64 (y.low : Int)) := fun X => (X.property.cell (p := ⟨tb, 0, none⟩) (by show tb < _; omega)).trans ((hb2.cell (p := ⟨tb, 0, none⟩) htb).trans t0)
      have hne : Nonempty (Since W2.heap.size W2) := ⟨⟨W2, Below.refl _ _⟩⟩
      have HB2 : Hid (Below W1.heap.size W1 W2) := hbel.out.trans (hb2.mono hbel.out.size)
      have hsl' : (0 : Int) < (xn : Int) := by omega
      have htl' : (0 : Int) < (yn : Int) := by omega
      clear hh es et hbel hB b0 b1 s0 t0 hb2 hz2'
      go_upto_region 5 with fail
      rw [← hW2]
      clear hW2 a0 a1
      refine wp_region_since (B := W2.heap.size) (W0 := W2) (by kernel_rfl) (by kernel_rfl) (Below.refl _ _) ?_
      by_cases hw : x.wt < y.wt
      · have HL : Hid (Hf.amin l (i + 1) = i) := HN.out.trans (if_pos (Hf.ltG_iff.2 (.inl hw)))
        clear HN
        repeat (go_big_quiet_step (fail))
        refine wpQuiet_nil ?_
        rintro w7 ⟨U, rfl⟩
        have HB3 : Hid (Below W1.heap.size W1 U.val) := HB2.out.trans (U.property.mono HB2.out.size)
        generalize U.val = w7 at *
        clear x0 x1 y0 y1 s1 t1 hne HB2
        go_wp2_with fail
        go_roundw
        case rel => exact ⟨i + 1, by omega, by go_num, by rw [HL.out], HB3⟩
        case measure => simp only [intOf]; omega
      · have q1 : decide ((x.wt : Int) < (y.wt : Int)) = false := decide_eq_false (by omega)
        have q2 : decide (x.wt < y.wt) = false := decide_eq_false hw
        by_cases he : x.wt = y.wt
        · have q3 : ((x.wt : Int) == (y.wt : Int)) = true := by rw [he]; simp
          have HE : Hid (x.wt = y.wt) := he
          clear he
          by_cases hlw : x.low < y.low
          · have HL : Hid (Hf.amin l (i + 1) = i) := HN.out.trans (if_pos (Hf.ltG_iff.2 (.inr ⟨HE.out, hlw⟩)))
            clear HN
            repeat (go_big_quiet_step (fail))
            refine wpQuiet_nil ?_
            rintro w7 ⟨U, rfl⟩
            have HB3 : Hid (Below W1.heap.size W1 U.val) := HB2.out.trans (U.property.mono HB2.out.size)
            generalize U.val = w7 at *
            clear x0 x1 y0 y1 s1 t1 hne HB2
            go_wp2_with fail
            go_roundw
            case rel => exact ⟨i + 1, by omega, by go_num, by rw [HL.out], HB3⟩
            case measure => simp only [intOf]; omega
          · have q4 : decide ((x.low : Int) < (y.low : Int)) = false := decide_eq_false (by omega)
            have q5 : decide (x.low < y.low) = false := decide_eq_false hlw
            have HL : Hid (Hf.amin l (i + 1) = k) := HN.out.trans (if_neg (fun e => by have := Hf.ltG_iff.1 e; omega))
            clear HN
            repeat (go_big_quiet_step (fail))
            refine wpQuiet_nil ?_
            rintro w7 ⟨U, rfl⟩
            have HB3 : Hid (Below W1.heap.size W1 U.val) := HB2.out.trans (U.property.mono HB2.out.size)
            generalize U.val = w7 at *
            clear x0 x1 y0 y1 s1 t1 hne HB2
            go_wp2_with fail
            go_roundw
            case rel => exact ⟨i + 1, by omega, by go_num, by rw [HL.out], HB3⟩
            case measure => simp only [intOf]; omega
        · have q3 : ((x.wt : Int) == (y.wt : Int)) = false := by simp; omega
          have HL : Hid (Hf.amin l (i + 1) = k) := HN.out.trans (if_neg (fun e => by have := Hf.ltG_iff.1 e; omega))
          clear HN
          repeat (go_big_quiet_step (fail))
          refine wpQuiet_nil ?_
          rintro w7 ⟨U, rfl⟩
          have HB3 : Hid (Below W1.heap.size W1 U.val) := HB2.out.trans (U.property.mono HB2.out.size)
          generalize U.val = w7 at *
          clear x0 x1 y0 y1 s1 t1 hne HB2
          go_wp2_with fail
          go_roundw
          case rel => exact ⟨i + 1, by omega, by go_num, by rw [HL.out], HB3⟩
          case measure => simp only [intOf]; omega
    · obtain rfl : i = l.length := by omega
      have hkl := Hf.amin_lt l l.length h0
      obtain ⟨k, hkk⟩ : ∃ k, Hf.amin l l.length = k := ⟨_, rfl⟩
      rw [hkk] at hkl ⊢
      have HKK : Hid (Hf.amin l l.length = k) := hkk
      clear hkk
      have HBw : Hid (Below w.heap.size w wr) := hB
      clear hB
      go_wp2_with fail
      go_loopw [7, 53] (fun x y wr' => ∃ i : Nat, i ≤ l.length ∧ y = .int .i64 i ∧ wr'.ownsRow W1.heap.size 60 2 x (Hf.rest l k i).length (rowB (Hf.rest l k i)) ∧ Hid (Below W1.heap.size W1 wr')) (fun _ y _ => l.length - (intOf y).toNat)
      case atStart => exact ⟨0, by omega, rfl, World.ownsRow_nil _ _ _ _, hbel⟩
      case round =>
        obtain ⟨i, hil, rfl, hown, hbel⟩ := hrel
        have hB : Below w.heap.size w wr := HB1.out.trans (hbel.out.mono HB1.out.size)
        by_cases hlt : i < l.length
        · have hh := h.keep hB
          obtain ⟨a0, a1, hg⟩ := hh.at_ rfl i hlt
          obtain ⟨sb, sc, es, _, _⟩ := hh.sign (Hf.nth_mem hlt)
          have hrl := Hf.rest_length l k i
          have hsz := hB.size
          have hszb := hbel.out.size
          by_cases hik : i = k
          · have hb : ((i : Int) != (k : Int)) = false := by simp [hik]
            have HR : Hid (Hf.rest l k (i + 1) = Hf.rest l k i) := by show _ = _; rw [hik]; exact Hf.rest_skip l k hkl
            have HB2 : Hid (∀ o, Below W1.heap.size W1 (wr.alloc o)) := fun o => hbel.out.alloc hbel.out.size o
            have HO2 : Hid (∀ o, (wr.alloc o).ownsRow W1.heap.size 60 2 u7 (Hf.rest l k (i + 1)).length (rowB (Hf.rest l k (i + 1)))) := fun o => by rw [HR.out]; exact hown.alloc o
            generalize Hf.nth l i = x at *
            rw [es] at a1
            clear hik hh es hbel hB hown
            go_wp2_with fail
            go_roundw
            case rel => exact ⟨i + 1, by omega, by go_num, HO2.out _, HB2.out _⟩
            case measure => simp only [intOf]; omega
          · have hb : ((i : Int) != (k : Int)) = true := by simp; omega
            have HR : Hid (Hf.rest l k (i + 1) = Hf.rest l k i ++ [Hf.nth l i]) := Hf.rest_more l k i hlt hik
            have ex : ∃ xw xl xs, Hf.nth l i = (⟨xw, xl, xs, .slice (some ⟨sb, 0, none⟩) (Hf.nth l i).sg.length sc⟩ : Hf.G) := ⟨_, _, _, by rw [← es]⟩
            obtain ⟨xw, xl, xs, ex⟩ := ex
            generalize (Hf.nth l i).sg.length = xn at *
            rw [ex] at a0 a1 HR
            dsimp only at a0 a1
            clear hik hh es ex
            go_wp2_with (at_builtin; refine wpList_append_own _ rfl (.tmp 61) (.tmp 63) 58 rfl W1.heap.size 60 i0 (.agg #[.int .i64 0, .slice none 0 0]) 2 32 Try.underlying58 hi hz0 hz1 hz2 rfl (by decide) _ _ _ rfl ((hown.alloc _).alloc _) ⟨wr.heap.size + 1, 0, none⟩ 1 1 (bC ⟨xw, xl, xs, .slice (some ⟨sb, 0, none⟩) xn sc⟩) rfl rfl (two_at (by simp) (by simp)) (by simp [bC, Value.oneCell']) (by unfold maxLen; omega) (by omega) (by simp; omega) ?_; intro v1 w3 hown3 hgrow _)
            have HO3 : Hid (w3.ownsRow W1.heap.size 60 2 v1 (Hf.rest l k (i + 1)).length (rowB (Hf.rest l k (i + 1)))) := by rw [HR.out, rowB_more, List.length_append]; exact hown3
            have HB3 : Hid (Below W1.heap.size W1 w3) := ((hbel.out.alloc hszb _).alloc (by simp; omega) _).grown hgrow (by simp; omega) fun j hj => (hown.lt j hj).1
            clear hown3 hgrow hown hbel hB a0 a1
            go_wp2_with fail
            go_roundw
            case rel => exact ⟨i + 1, by omega, by go_num, HO3.out, HB3⟩
            case measure => simp only [intOf]; omega
        · obtain rfl : i = l.length := by omega
          have hh := h.keep hB
          obtain ⟨a0, a1, hg⟩ := hh.at_ rfl k hkl
          obtain ⟨sb, sc, es, _, _⟩ := hh.sign (Hf.nth_mem hkl)
          obtain ⟨d0, d1, f0, f1, hwl⟩ := HX1.out.below hbel.out HX1.out.lt
          have HF : Hid (∀ W v', Below w.heap.size w W → W.ownsRow W1.heap.size 60 2 v' (Hf.rest l k l.length).length (rowB (Hf.rest l k l.length)) → Bun W base v' (Hf.rest l k l.length)) := fun W v' hW hr => by
            have hm : ∀ g ∈ Hf.rest l k l.length, g ∈ l := fun g hg => (Hf.rest_perm l k hkl).mem_iff.2 (List.mem_cons_of_mem _ hg)
            exact ⟨row_lower hr (by have := HB1.out.size; omega), fun g hg => row_below (h.signs g (hm g hg)) hW, fun g hg => h.low g (hm g hg)⟩
          have HE : Hid ((Hf.nth l k).sv = .slice (some ⟨sb, 0, none⟩) (Hf.nth l k).sg.length sc) := es
          have HW1 : Hid (w.heap.size < W1.heap.size) := HX1.out.lt
          rw [es] at a1
          clear hh es h
          generalize (Hf.nth l k).sg.length = xn at *
          generalize hnk : Hf.nth l k = x at *
          have HNK : Hid (Hf.nth l k = x) := hnk
          clear hnk
          have HOW : Hid (wr.ownsRow W1.heap.size 60 2 u7 (Hf.rest l k l.length).length (rowB (Hf.rest l k l.length))) := hown
          have HBF : Hid (Below w.heap.size w wr) := hB
          clear hown hB hbel
          have ex : ∃ oa om oc, u7 = .slice oa om oc := by
            rcases HOW.out.2 with ⟨rfl, _⟩ | ⟨_, _, _, rfl, _⟩
            · exact ⟨_, _, _, rfl⟩
            · exact ⟨_, _, _, rfl⟩
          obtain ⟨oa, om, oc, rfl⟩ := ex
          go_wp2_with fail
          have hk2 : Kept (fun q => q ≠ w.heap.size) wr ((wr.setCell ⟨w.heap.size, 0, none⟩ (.int .i64 x.wt)).setCell ⟨w.heap.size, 1, none⟩ (.slice (some ⟨sb, 0, none⟩) xn sc)) := ((Kept.refl _ wr).setCell (by simp) _).setCell (by simp) _
          refine bodyPost_ret (v := .tuple #[.agg #[.int .i64 x.wt, .slice (some ⟨sb, 0, none⟩) xn sc], .slice oa om oc]) ?_ rfl ⟨.slice oa om oc, by rw [HKK.out, HNK.out, HE.out], by rw [HKK.out]; exact HF.out _ _ ((HBF.out.setCell (Nat.le_refl _) _).setCell (Nat.le_refl _) _) (own_kept' HOW.out hk2 fun q hq => by have := HW1.out; omega), fun b hb => by have := (HOW.out.lt b hb).1; have := HW1.out; omega, ?_⟩
          · simp [results, asAddr, go_sem, d0, d1]
          · exact (HBF.out.setCell (Nat.le_refl _) _).setCell (Nat.le_refl _) _
end Go.Proofs.Ytoohekdaihhflaa
