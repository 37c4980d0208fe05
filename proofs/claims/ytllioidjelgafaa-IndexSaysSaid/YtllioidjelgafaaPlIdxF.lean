/-
  What slices.IndexFunc answers where an ID is looked for.
-/
import Derived.Test.YtllioidjelgafaaPlFind2
namespace Go.Proofs.Ytllioidjelgafaa
open Go.RowKit
set_option maxRecDepth 4000

theorem find_first {l : List Plc} {x : List UInt8} {k : Nat} {t : Plc} (h : ∀ j, j < k → ∀ s, l[j]? = some s → s.id ≠ x) (ht : l[k]? = some t) (hx : t.id = x) : l.find? (fun p => p.id == x) = some t := by
  induction l generalizing k with
  | nil => simp at ht
  | cons s l ih =>
    cases k with
    | zero =>
      obtain rfl : s = t := by simpa using ht
      rw [List.find?_cons, hx, beq_self_eq_true]
    | succ k =>
      have h0 := h 0 (by omega) s rfl
      rw [List.find?_cons, show (s.id == x) = false from beq_eq_false_iff_ne.2 h0]
      exact ih (k := k) (fun j hj u hu => h (j + 1) (by omega) u hu) (by simpa using ht)
theorem find_nothing {l : List Plc} {x : List UInt8} (h : ∀ j, j < l.length → ∀ s, l[j]? = some s → s.id ≠ x) : l.find? (fun p => p.id == x) = none := by
  rw [List.find?_eq_none]
  intro t ht hx
  obtain ⟨j, hj, rfl⟩ := List.getElem_of_mem ht
  exact h j hj _ (List.getElem?_eq_getElem hj) (by simpa using hx)
/-- what is found -/
def IfOut (l : List Plc) (x : List UInt8) (r : Int) : Prop := (∃ (i : Nat) (t : Plc), r = (i : Int) ∧ l[i]? = some t ∧ l.find? (fun p => p.id == x) = some t) ∨ (r = -1 ∧ l.find? (fun p => p.id == x) = none)

theorem saysCmp_of (G : Nat) (b0 b1 b2 b3 b4 b5 b6 b7 x0 x1 x2 x3 x4 x5 x6 x7 : UInt8) (k p a l : Int) (w : World) (hG : G < w.heap.size) (hx : ∀ r u, (#[.int .u8 (x0.toNat : Int), .int .u8 (x1.toNat : Int), .int .u8 (x2.toNat : Int), .int .u8 (x3.toNat : Int), .int .u8 (x4.toNat : Int), .int .u8 (x5.toNat : Int), .int .u8 (x6.toNat : Int), .int .u8 (x7.toNat : Int)] : Array Value)[r]? = some u → w.cell? ⟨G, r, none⟩ = some u) :
    Calls Try.prog 12 #[.agg (pl12 b0 b1 b2 b3 b4 b5 b6 b7 k p a l), .pointer (some ⟨G, 0, none⟩)] w fun e w' => e = .returned (.bool ([b0, b1, b2, b3, b4, b5, b6, b7] == [x0, x1, x2, x3, x4, x5, x6, x7])) ∧ Below w.heap.size w w' := by
  have heq : ∀ W, (Op.equalIn 10000 24 (.agg #[.int .u8 (b0.toNat : Int), .int .u8 (b1.toNat : Int), .int .u8 (b2.toNat : Int), .int .u8 (b3.toNat : Int), .int .u8 (b4.toNat : Int), .int .u8 (b5.toNat : Int), .int .u8 (b6.toNat : Int), .int .u8 (b7.toNat : Int)]) (.agg #[.int .u8 (x0.toNat : Int), .int .u8 (x1.toNat : Int), .int .u8 (x2.toNat : Int), .int .u8 (x3.toNat : Int), .int .u8 (x4.toNat : Int), .int .u8 (x5.toNat : Int), .int .u8 (x6.toNat : Int), .int .u8 (x7.toNat : Int)])).run Try.prog W = .ok ([b0, b1, b2, b3, b4, b5, b6, b7] == [x0, x1, x2, x3, x4, x5, x6, x7]) W := fun W => id_eq_at W 9998 [b0, b1, b2, b3, b4, b5, b6, b7] [x0, x1, x2, x3, x4, x5, x6, x7] rfl rfl
  have hxa : ∀ o r u, (#[.int .u8 (x0.toNat : Int), .int .u8 (x1.toNat : Int), .int .u8 (x2.toNat : Int), .int .u8 (x3.toNat : Int), .int .u8 (x4.toNat : Int), .int .u8 (x5.toNat : Int), .int .u8 (x6.toNat : Int), .int .u8 (x7.toNat : Int)] : Array Value)[r]? = some u → (w.alloc o).cell? ⟨G, r, none⟩ = some u := fun o r u hu => (((Below.refl w.heap.size w).alloc (Nat.le_refl _) o).cell (p := ⟨G, r, none⟩) hG).trans (hx r u hu)
  have HB : Hid (∀ o, Below w.heap.size w (w.alloc o)) := fun o => (Below.refl _ w).alloc (Nat.le_refl _) o
  generalize ([b0, b1, b2, b3, b4, b5, b6, b7] == [x0, x1, x2, x3, x4, x5, x6, x7]) = r at heq ⊢
  have xa0 : ∀ o, (w.alloc o).cell? ⟨G, 0, none⟩ = some (.int .u8 (x0.toNat : Int)) := fun o => hxa o 0 _ rfl
  have xa1 : ∀ o, (w.alloc o).cell? ⟨G, 1, none⟩ = some (.int .u8 (x1.toNat : Int)) := fun o => hxa o 1 _ rfl
  have xa2 : ∀ o, (w.alloc o).cell? ⟨G, 2, none⟩ = some (.int .u8 (x2.toNat : Int)) := fun o => hxa o 2 _ rfl
  have xa3 : ∀ o, (w.alloc o).cell? ⟨G, 3, none⟩ = some (.int .u8 (x3.toNat : Int)) := fun o => hxa o 3 _ rfl
  have xa4 : ∀ o, (w.alloc o).cell? ⟨G, 4, none⟩ = some (.int .u8 (x4.toNat : Int)) := fun o => hxa o 4 _ rfl
  have xa5 : ∀ o, (w.alloc o).cell? ⟨G, 5, none⟩ = some (.int .u8 (x5.toNat : Int)) := fun o => hxa o 5 _ rfl
  have xa6 : ∀ o, (w.alloc o).cell? ⟨G, 6, none⟩ = some (.int .u8 (x6.toNat : Int)) := fun o => hxa o 6 _ rfl
  have xa7 : ∀ o, (w.alloc o).cell? ⟨G, 7, none⟩ = some (.int .u8 (x7.toNat : Int)) := fun o => hxa o 7 _ rfl
  clear hxa hx
  go_enter Try.func12, Try.ntmps12
  go_wp2_with fail
  go_ret
  exact ⟨rfl, HB.out _⟩

set_option maxHeartbeats 4000000 in
theorem indexFunc_any (v : Value) (l : List Plc) (G : Nat) (x0 x1 x2 x3 x4 x5 x6 x7 : UInt8) (w : World) (h : Px w v l) (hl : l.length ≤ 140737488351232) (hG : G < w.heap.size) (hx : ∀ r u, (#[.int .u8 (x0.toNat : Int), .int .u8 (x1.toNat : Int), .int .u8 (x2.toNat : Int), .int .u8 (x3.toNat : Int), .int .u8 (x4.toNat : Int), .int .u8 (x5.toNat : Int), .int .u8 (x6.toNat : Int), .int .u8 (x7.toNat : Int)] : Array Value)[r]? = some u → w.cell? ⟨G, r, none⟩ = some u) :
    Calls Try.prog 11 #[v, .func (.func 12) #[] #[.pointer (some ⟨G, 0, none⟩)]] w fun e w' => ∃ r, e = .returned (.int .i64 r) ∧ IfOut l [x0, x1, x2, x3, x4, x5, x6, x7] r ∧ Below w.heap.size w w' := by
  obtain ⟨a, c, rfl, hc1, hc2⟩ := h.slice
  have HH : Hid (Px w (.slice a l.length c) l) := h
  have HX : Hid (∀ r u, (#[.int .u8 (x0.toNat : Int), .int .u8 (x1.toNat : Int), .int .u8 (x2.toNat : Int), .int .u8 (x3.toNat : Int), .int .u8 (x4.toNat : Int), .int .u8 (x5.toNat : Int), .int .u8 (x6.toNat : Int), .int .u8 (x7.toNat : Int)] : Array Value)[r]? = some u → w.cell? ⟨G, r, none⟩ = some u) := hx
  have hcl := fun b0 b1 b2 b3 b4 b5 b6 b7 k p a l W h1 h2 => saysCmp_of G b0 b1 b2 b3 b4 b5 b6 b7 x0 x1 x2 x3 x4 x5 x6 x7 k p a l W h1 h2
  clear h hx
  go_enter Try.func11, Try.ntmps11
  go_wp2_with fail
  go_loopw [8] (fun i wr => ∃ k : Nat, k ≤ l.length ∧ i = .int .i64 k ∧ Hid (∀ j, j < k → ∀ s, l[j]? = some s → s.id ≠ [x0, x1, x2, x3, x4, x5, x6, x7]) ∧ Hid (Below w.heap.size w wr)) (fun i _ => l.length - (intOf i).toNat)
  case atStart => exact ⟨0, by omega, rfl, (fun j hj => by omega), Below.refl _ _⟩
  case round =>
    obtain ⟨k, hk, rfl, hn, hbel⟩ := hrel
    by_cases hlt : k < l.length
    · obtain ⟨t, ht⟩ : ∃ t, l[k]? = some t := ⟨_, List.getElem?_eq_getElem hlt⟩
      obtain ⟨b0, b1, b2, b3, b4, b5, b6, b7, k1, p1, a1, l1, ht12⟩ := t.as12
      have HT : Hid (l[k]? = some t) := ht
      have HTI : Hid (t.id = [b0, b1, b2, b3, b4, b5, b6, b7]) := by show _ = _; rw [ht12]
      rw [ht12] at ht
      obtain ⟨bk, o, hao, hbk, hat⟩ := (HH.out.below hbel.out).twelve k ht
      subst hao
      have hcl1 := hcl b0 b1 b2 b3 b4 b5 b6 b7 k1 p1 a1 l1 wr (Nat.lt_of_lt_of_le hG hbel.out.size) (fun r u hu => (hbel.out.cell (p := ⟨G, r, none⟩) hG).trans (HX.out r u hu))
      have y0 : wr.cell? ⟨bk, o + k * 12, none⟩ = some (.int .u8 (b0.toNat : Int)) := hat.c0
      have y1 : wr.cell? ⟨bk, o + k * 12 + 1, none⟩ = some (.int .u8 (b1.toNat : Int)) := hat.c1
      have y2 : wr.cell? ⟨bk, o + k * 12 + 2, none⟩ = some (.int .u8 (b2.toNat : Int)) := hat.c2
      have y3 : wr.cell? ⟨bk, o + k * 12 + 3, none⟩ = some (.int .u8 (b3.toNat : Int)) := hat.c3
      have y4 : wr.cell? ⟨bk, o + k * 12 + 4, none⟩ = some (.int .u8 (b4.toNat : Int)) := hat.c4
      have y5 : wr.cell? ⟨bk, o + k * 12 + 5, none⟩ = some (.int .u8 (b5.toNat : Int)) := hat.c5
      have y6 : wr.cell? ⟨bk, o + k * 12 + 6, none⟩ = some (.int .u8 (b6.toNat : Int)) := hat.c6
      have y7 : wr.cell? ⟨bk, o + k * 12 + 7, none⟩ = some (.int .u8 (b7.toNat : Int)) := hat.c7
      have y8 : wr.cell? ⟨bk, o + k * 12 + 8, none⟩ = some (.int .i64 k1) := hat.c8
      have y9 : wr.cell? ⟨bk, o + k * 12 + 9, none⟩ = some (.int .i64 p1) := hat.c9
      have y10 : wr.cell? ⟨bk, o + k * 12 + 10, none⟩ = some (.int .i64 a1) := hat.c10
      have y11 : wr.cell? ⟨bk, o + k * 12 + 11, none⟩ = some (.int .i64 l1) := hat.c11
      clear hat ht ht12 hcl
      cases hq : ([b0, b1, b2, b3, b4, b5, b6, b7] == [x0, x1, x2, x3, x4, x5, x6, x7]) with
      | true =>
        rw [hq] at hcl1
        have HO : Hid (IfOut l [x0, x1, x2, x3, x4, x5, x6, x7] (k : Int)) := .inl ⟨k, t, rfl, HT.out, find_first hn.out HT.out (HTI.out.trans (beq_iff_eq.1 hq))⟩
        clear hq hn
        go_wp2_with (refine hcl1.mono ?_; rintro e w2 ⟨rfl, b2⟩)
        go_ret
        exact ⟨(k : Int), rfl, HO.out, hbel.out.trans (b2.mono hbel.out.size)⟩
      | false =>
        rw [hq] at hcl1
        have HN2 : Hid (∀ j, j < k + 1 → ∀ s, l[j]? = some s → s.id ≠ [x0, x1, x2, x3, x4, x5, x6, x7]) := fun j hj s hs => by
          rcases Nat.lt_or_ge j k with d | d
          · exact hn.out j d s hs
          · obtain rfl : j = k := by omega
            rw [HT.out] at hs
            obtain rfl := Option.some.inj hs
            rw [HTI.out]
            exact beq_eq_false_iff_ne.1 hq
        clear hq hn
        go_upto_region 6 with (refine hcl1.mono ?_; rintro e w2 ⟨rfl, b2⟩)
        have HB2 : Hid (Below w.heap.size w w2) := hbel.out.trans (b2.mono hbel.out.size)
        clear b2 hcl1 y0 y1 y2 y3 y4 y5 y6 y7 y8 y9 y10 y11
        go_wp2_with fail
        go_roundw
        case rel => exact ⟨k + 1, by omega, by go_num, HN2, HB2⟩
        case measure => simp only [intOf]; omega
    · have HO : Hid (IfOut l [x0, x1, x2, x3, x4, x5, x6, x7] (-1)) := .inr ⟨rfl, find_nothing fun j hj => hn.out j (by omega)⟩
      clear hn hcl
      go_wp2_with fail
      go_ret
      exact ⟨-1, rfl, HO.out, hbel.out⟩
end Go.Proofs.Ytllioidjelgafaa
