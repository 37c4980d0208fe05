/-
  A map of numbers by IDs in which each key that is there has the number 1: how many there are.
  An ID by its eight bytes.
  slices.Index and slices.Contains over IDs: whether an ID is there.
  P49: what Needs of package walk answers.
  P47, P49 (no Go in it): of the blobs of a planted world each is told ahead of who needs it; the root is the last one; all others are needed, and nobody needs the root.
  The walk of lumkeep.WalkOnce: it returns true.
-/
import Derived.Test.YtimdioacmojkeaaGreatDoorGA
import Derived.Maps.Views
import Derived.Test.YtimdioacmojkeaaGreatDoorGE
import Derived.Test.YtimdioacmojkeaaGreatDoorGB

namespace Go.Proofs.YtimdioacmojkeaaGreatDoor
open Go.RowKit Go.WideMaps
open Go.Maps (Keyed IsMap Tidy)
set_option maxRecDepth 20000

/-- block b is a map of at most n entries whose keys are K, each once, with a 1 -/
def Mk (w : World) (b n : Nat) (K : List (List UInt8)) : Prop :=
  ∃ D, w.ownsMap Tryz.prog 29 heldE b n D ∧ Maps.size D = K.length ∧ K.Nodup ∧ ∀ x, x.length = 8 → Maps.has D (kl Tryz.prog x) = decide (x ∈ K) ∧ D.atKey (kl Tryz.prog x) (.held (.int .i64 0)) = .held (.int .i64 (if x ∈ K then 1 else 0))

theorem Mk.new (w : World) : Mk (w.alloc (.map #[] 0)) w.heap.size 0 [] :=
  ⟨_, World.ownsMap_made w Tryz.prog 29 heldE, rfl, List.nodup_nil, fun _ _ => ⟨rfl, rfl⟩⟩

theorem Mk.lt {w : World} {b n : Nat} {K : List (List UInt8)} (h : Mk w b n K) : b < w.heap.size := by
  obtain ⟨D, h, _⟩ := h
  exact h.lt

theorem Mk.kept {p : Nat → Prop} {w w' : World} {b n : Nat} {K : List (List UInt8)} (h : Mk w b n K) (hk : Kept p w w') (hp : p b) : Mk w' b n K := by
  obtain ⟨D, h, h2⟩ := h
  have hlt := h.lt
  obtain ⟨es, clock, hb, F, hs, hD⟩ := h
  exact ⟨D, ⟨es, clock, (hk.block b hlt hp).trans hb, F, hs, hD⟩, h2⟩

theorem Mk.below {w w' : World} {b n : Nat} {K : List (List UInt8)} (h : Mk w b n K) (hb : Below w.heap.size w w') : Mk w' b n K := h.kept (Kept.of_below (p := fun _ => True) hb) trivial

theorem Mk.look {w : World} {b n : Nat} {K : List (List UInt8)} (h : Mk w b n K) {t e : TypeId} (ht : Tryz.prog.underlying t = some (.map 29 e)) (hz : (zeroValue e).run Tryz.prog w = .ok (.int .i64 0) w) {x : List UInt8} (hx : x.length = 8) :
    (Instr.lookup t (.map (some b)) (.agg (x.map B).toArray) false).run Tryz.prog w = .ok (.int .i64 (if x ∈ K then 1 else 0)) w := by
  obtain ⟨D, h, _, _, h3⟩ := h
  obtain ⟨v, ps, hr, hv⟩ := h.lookup id_keyed ht hz (zd := .held (.int .i64 0)) (zp := []) rfl (kl_key hx)
  rw [(h3 x hx).2] at hv
  rw [hr, heldE_inv hv]

theorem Mk.count {w : World} {b n : Nat} {K : List (List UInt8)} (h : Mk w b n K) {t e : TypeId} (ht : Tryz.prog.underlying t = some (.map 29 e)) (ty : TypeId) :
    (Builtin.len_ #[t] ty #[.map (some b)]).run Tryz.prog w = .ok (.int .i64 K.length) w := by
  obtain ⟨D, h, h1, _⟩ := h
  rw [h.len ht, h1]

theorem Mk.set {w : World} {b n : Nat} {K : List (List UInt8)} (h : Mk w b n K) {t e : TypeId} (ht : Tryz.prog.underlying t = some (.map 29 e)) {x : List UInt8} (hx : x.length = 8) (hm : n < 4611686018427387904) :
    ∃ w', (Instr.mapUpdate t (.map (some b)) (.agg (x.map B).toArray) (.int .i64 1)).run Tryz.prog w = .ok () w' ∧ Mk w' b (n + 1) (if x ∈ K then K else K ++ [x]) ∧ w.grownBy w' (some b) := by
  obtain ⟨D, h, h1, h2, h3⟩ := h
  have hI := h.isMap
  have hT := h.tidy id_keyed
  obtain ⟨w', hr, ho, hg⟩ := h.update id_keyed ht (by unfold maxLen; omega) (d := .held (.int .i64 1)) (ps := []) (kl_key hx) rfl
  refine ⟨w', hr, ⟨_, ho, ?_, ?_, fun y hy => ?_⟩, hg⟩
  · rw [Maps.size_put hT, (h3 x hx).1]
    by_cases hi : x ∈ K
    · rw [if_pos (decide_eq_true hi), if_pos hi, h1]
    · rw [if_neg (by simpa using hi), if_neg hi, h1, List.length_append]; rfl
  · split
    · exact h2
    · rename_i hi
      exact List.nodup_append.2 ⟨h2, by simp, fun a ha c hc e => by rw [List.mem_singleton.1 hc] at e; exact hi (e ▸ ha)⟩
  · have hmem : y ∈ (if x ∈ K then K else K ++ [x]) ↔ y = x ∨ y ∈ K := by
      split
      · rename_i hi
        exact ⟨.inr, fun q => q.elim (fun e => e ▸ hi) id⟩
      · rw [List.mem_append, List.mem_singleton]; exact or_comm
    by_cases e : y = x
    · subst e
      have hin : y ∈ (if y ∈ K then K else K ++ [y]) := hmem.2 (.inl rfl)
      rw [if_pos hin]
      exact ⟨by rw [Maps.has_put_same hI (id_keyed.key (kl_key hx))]; exact (decide_eq_true hin).symm, Maps.atKey_put_same hI (id_keyed.key (kl_key hx)) _ _⟩
    · have hk : kl Tryz.prog y ≠ kl Tryz.prog x := fun f => e (kl_inj hy hx f)
      obtain ⟨q1, q2⟩ := h3 y hy
      have hiff : y ∈ (if x ∈ K then K else K ++ [x]) ↔ y ∈ K := by rw [hmem]; exact ⟨fun q => q.resolve_left e, .inr⟩
      rw [Maps.has_put_other hk, Maps.atKey_put_other hk, q1, q2]
      refine ⟨decide_eq_decide.2 hiff.symm, ?_⟩
      by_cases hi : y ∈ K
      · rw [if_pos hi, if_pos (hiff.2 hi)]
      · rw [if_neg hi, if_neg (fun z => hi (hiff.1 z))]

end Go.Proofs.YtimdioacmojkeaaGreatDoor

namespace Go.Proofs.YtimdioacmojkeaaGreatDoor
open Go.RowKit

theorem oct8 {t : List UInt8} (h : t.length = 8) : ∃ b0 b1 b2 b3 b4 b5 b6 b7, t = [b0, b1, b2, b3, b4, b5, b6, b7] := by
  match t, h with
  | [b0, b1, b2, b3, b4, b5, b6, b7], _ => exact ⟨b0, b1, b2, b3, b4, b5, b6, b7, rfl⟩
end Go.Proofs.YtimdioacmojkeaaGreatDoor

namespace Go.Proofs.YtimdioacmojkeaaGreatDoor
open Go.RowKit
set_option maxRecDepth 4000

theorem id_cells {W : World} {G : Nat} {t : List UInt8} (h : W.heap[G]? = some (.cells (t.map B).toArray 29 (0, 0))) : ∀ r u, (idC t)[r]? = some u → W.cell? ⟨G, r, none⟩ = some u := by
  intro r u hu
  rw [cell_of_row _ G r _ _ _ h]
  simpa [idC] using hu

set_option maxHeartbeats 4000000 in
set_option maxRecDepth 10000 in
theorem ixId_at (v : Value) (l : List (List UInt8)) (t : List UInt8) (w : World) (h : Rx 8 idC w v l) (h8 : ∀ q ∈ l, q.length = 8) (ht : t.length = 8) :
    Calls Tryz.prog 62 #[v, idV t] w fun e w' => ∃ r : Int, e = .returned (.int .i64 r) ∧ ((∃ k : Nat, r = (k : Int) ∧ l[k]? = some t ∧ t ∉ l.take k) ∨ (r = -1 ∧ t ∉ l)) ∧ Below w.heap.size w w' := by
  obtain ⟨a1, c1, rfl, j1, j2⟩ := h.slice
  have HX : Hid (Rx 8 idC w (.slice a1 l.length c1) l ∧ ∀ t ∈ l, t.length = 8) := ⟨h, h8⟩
  obtain ⟨N, hN⟩ : ∃ N, N = l.length := ⟨_, rfl⟩
  have HN : Hid (N = l.length) := hN
  rw [← hN] at HX j1 ⊢
  clear h h8 hN
  obtain ⟨d0, d1, d2, d3, d4, d5, d6, d7, rfl⟩ := oct8 ht
  clear ht
  obtain ⟨i0, hi, hz0, hz1, hz2⟩ := info_of' info_id
  have HW1 : Hid (Below w.heap.size w (w.alloc (.cells ([d0, d1, d2, d3, d4, d5, d6, d7].map B).toArray 29))) := (Below.refl _ w).alloc (Nat.le_refl _) _
  have HM1 : Hid ((w.alloc (.cells ([d0, d1, d2, d3, d4, d5, d6, d7].map B).toArray 29)).heap[w.heap.size]? = some (.cells ([d0, d1, d2, d3, d4, d5, d6, d7].map B).toArray 29 (0, 0))) := heap_alloc_new w _
  show Calls Tryz.prog 62 #[.slice a1 N c1, .agg #[.int .u8 (d0.toNat : Int), .int .u8 (d1.toNat : Int), .int .u8 (d2.toNat : Int), .int .u8 (d3.toNat : Int), .int .u8 (d4.toNat : Int), .int .u8 (d5.toNat : Int), .int .u8 (d6.toNat : Int), .int .u8 (d7.toNat : Int)]] w _
  go_enter Tryz.func62, Tryz.ntmps62
  go_wp2_with fail
  go_loopw [5, 8] (fun q i wr => ∃ k : Nat, k ≤ N ∧ i = .int .i64 k ∧ Hid (Below w.heap.size w wr ∧ wr.heap[w.heap.size]? = some (.cells ([d0, d1, d2, d3, d4, d5, d6, d7].map B).toArray 29 (0, 0)) ∧ [d0, d1, d2, d3, d4, d5, d6, d7] ∉ l.take k)) (fun _ i _ => N - (intOf i).toNat)
  case atStart => exact ⟨0, by omega, rfl, HW1.out, HM1.out, by simp⟩
  case round =>
    clear HW1 HM1
    obtain ⟨k, hk, rfl, HB⟩ := hrel
    by_cases hlt : k < N
    · have hkl : k < l.length := by rw [← HN.out]; exact hlt
      obtain ⟨bk, o, rfl, hbk, hc⟩ := (HX.out.1.below HB.out.1).get k l[k] (List.getElem?_eq_getElem hkl)
      have hd := id_cells HB.out.2.1
      obtain ⟨b0, b1, b2, b3, b4, b5, b6, b7, ht8⟩ := oct8 (HX.out.2 l[k] (List.getElem_mem hkl))
      have HT8 : Hid (l[k] = [b0, b1, b2, b3, b4, b5, b6, b7]) := ht8
      rw [ht8] at hc
      have x0 : wr.cell? ⟨bk, o + k * 8, none⟩ = some (.int .u8 (b0.toNat : Int)) := hc 0 _ rfl
      have x1 : wr.cell? ⟨bk, o + k * 8 + 1, none⟩ = some (.int .u8 (b1.toNat : Int)) := hc 1 _ rfl
      have x2 : wr.cell? ⟨bk, o + k * 8 + 2, none⟩ = some (.int .u8 (b2.toNat : Int)) := hc 2 _ rfl
      have x3 : wr.cell? ⟨bk, o + k * 8 + 3, none⟩ = some (.int .u8 (b3.toNat : Int)) := hc 3 _ rfl
      have x4 : wr.cell? ⟨bk, o + k * 8 + 4, none⟩ = some (.int .u8 (b4.toNat : Int)) := hc 4 _ rfl
      have x5 : wr.cell? ⟨bk, o + k * 8 + 5, none⟩ = some (.int .u8 (b5.toNat : Int)) := hc 5 _ rfl
      have x6 : wr.cell? ⟨bk, o + k * 8 + 6, none⟩ = some (.int .u8 (b6.toNat : Int)) := hc 6 _ rfl
      have x7 : wr.cell? ⟨bk, o + k * 8 + 7, none⟩ = some (.int .u8 (b7.toNat : Int)) := hc 7 _ rfl
      have y0 : wr.cell? ⟨w.heap.size, 0, none⟩ = some (.int .u8 (d0.toNat : Int)) := hd 0 _ rfl
      have y1 : wr.cell? ⟨w.heap.size, 1, none⟩ = some (.int .u8 (d1.toNat : Int)) := hd 1 _ rfl
      have y2 : wr.cell? ⟨w.heap.size, 2, none⟩ = some (.int .u8 (d2.toNat : Int)) := hd 2 _ rfl
      have y3 : wr.cell? ⟨w.heap.size, 3, none⟩ = some (.int .u8 (d3.toNat : Int)) := hd 3 _ rfl
      have y4 : wr.cell? ⟨w.heap.size, 4, none⟩ = some (.int .u8 (d4.toNat : Int)) := hd 4 _ rfl
      have y5 : wr.cell? ⟨w.heap.size, 5, none⟩ = some (.int .u8 (d5.toNat : Int)) := hd 5 _ rfl
      have y6 : wr.cell? ⟨w.heap.size, 6, none⟩ = some (.int .u8 (d6.toNat : Int)) := hd 6 _ rfl
      have y7 : wr.cell? ⟨w.heap.size, 7, none⟩ = some (.int .u8 (d7.toNat : Int)) := hd 7 _ rfl
      obtain ⟨bl, hbl⟩ : ∃ bl, bl = ([d0, d1, d2, d3, d4, d5, d6, d7] == [b0, b1, b2, b3, b4, b5, b6, b7]) := ⟨_, rfl⟩
      have HBL : Hid (bl = ([d0, d1, d2, d3, d4, d5, d6, d7] == [b0, b1, b2, b3, b4, b5, b6, b7])) := hbl
      have heq : ∀ W, (Op.equalIn 10000 29 (.agg #[.int .u8 (d0.toNat : Int), .int .u8 (d1.toNat : Int), .int .u8 (d2.toNat : Int), .int .u8 (d3.toNat : Int), .int .u8 (d4.toNat : Int), .int .u8 (d5.toNat : Int), .int .u8 (d6.toNat : Int), .int .u8 (d7.toNat : Int)]) (.agg #[.int .u8 (b0.toNat : Int), .int .u8 (b1.toNat : Int), .int .u8 (b2.toNat : Int), .int .u8 (b3.toNat : Int), .int .u8 (b4.toNat : Int), .int .u8 (b5.toNat : Int), .int .u8 (b6.toNat : Int), .int .u8 (b7.toNat : Int)])).run Tryz.prog W = .ok bl W := fun W => by
        have := id_eq W [d0, d1, d2, d3, d4, d5, d6, d7] [b0, b1, b2, b3, b4, b5, b6, b7] rfl rfl
        rw [← hbl] at this
        exact this
      clear hc hd ht8 hbk hbl
      cases bl with
      | true =>
        have HIN : Hid (l[k]? = some [d0, d1, d2, d3, d4, d5, d6, d7]) := by
          have e : [d0, d1, d2, d3, d4, d5, d6, d7] = [b0, b1, b2, b3, b4, b5, b6, b7] := eq_of_beq HBL.out.symm
          show _ = _
          rw [e, ← HT8.out]
          exact List.getElem?_eq_getElem hkl
        go_wp2_with fail
        go_quiet (fail)
        clear x0 x1 x2 x3 x4 x5 x6 x7 y0 y1 y2 y3 y4 y5 y6 y7 heq
        go_wp2_with fail
        go_ret
        exact ⟨k, rfl, .inl ⟨k, rfl, HIN.out, HB.out.2.2⟩, below_drewN HB.out.1 _⟩
      | false =>
        have HNO : Hid ([d0, d1, d2, d3, d4, d5, d6, d7] ∉ l.take (k + 1)) := by
          have e : [d0, d1, d2, d3, d4, d5, d6, d7] ≠ [b0, b1, b2, b3, b4, b5, b6, b7] := fun e => by
            have := HBL.out
            rw [e, beq_self_eq_true] at this
            cases this
          show _ ∉ _
          rw [List.take_add_one, List.getElem?_eq_getElem hkl, Option.toList_some, HT8.out, List.mem_append, List.mem_singleton]
          rintro (q | q)
          · exact HB.out.2.2 q
          · exact e q
        go_wp2_with fail
        go_quiet (fail)
        clear x0 x1 x2 x3 x4 x5 x6 x7 y0 y1 y2 y3 y4 y5 y6 y7 heq
        go_wp2_with fail
        go_roundw
        case rel => exact ⟨k + 1, by omega, by go_num, below_drewN HB.out.1 _, HB.out.2.1, HNO.out⟩
        case measure => simp only [intOf]; omega
    · have HNI : Hid ([d0, d1, d2, d3, d4, d5, d6, d7] ∉ l) := by
        have := HB.out.2.2
        rw [List.take_of_length_le (by rw [← HN.out]; omega)] at this
        exact this
      go_wp2_with fail
      go_ret
      exact ⟨-1, rfl, .inr ⟨rfl, HNI.out⟩, HB.out.1⟩

theorem ixId_any (v : Value) (l : List (List UInt8)) (t : List UInt8) (w : World) (h : Rx 8 idC w v l) (h8 : ∀ q ∈ l, q.length = 8) (ht : t.length = 8) :
    Calls Tryz.prog 62 #[v, idV t] w fun e w' => ∃ r : Int, e = .returned (.int .i64 r) ∧ (0 ≤ r ↔ t ∈ l) ∧ Below w.heap.size w w' := by
  refine (ixId_at v l t w h h8 ht).mono fun e w' ⟨r, he, hr, hb⟩ => ⟨r, he, ?_, hb⟩
  rcases hr with ⟨k, rfl, hk, _⟩ | ⟨rfl, hn⟩
  · exact ⟨fun _ => List.mem_of_getElem? hk, fun _ => by omega⟩
  · exact ⟨fun q => by omega, fun q => absurd q hn⟩

set_option maxHeartbeats 4000000 in
set_option maxRecDepth 10000 in
theorem hasId_any (v : Value) (l : List (List UInt8)) (t : List UInt8) (w : World) (h : Rx 8 idC w v l) (h8 : ∀ q ∈ l, q.length = 8) (ht : t.length = 8) :
    Calls Tryz.prog 41 #[v, idV t] w fun e w' => e = .returned (.bool (decide (t ∈ l))) ∧ Below w.heap.size w w' := by
  obtain ⟨a1, c1, rfl, j1, j2⟩ := h.slice
  obtain ⟨d0, d1, d2, d3, d4, d5, d6, d7, rfl⟩ := oct8 ht
  obtain ⟨i0, hi, hz0, hz1, hz2⟩ := info_of' info_id
  obtain ⟨W1, hW1⟩ : ∃ W1, W1 = w.alloc (.cells ([d0, d1, d2, d3, d4, d5, d6, d7].map B).toArray 29) := ⟨_, rfl⟩
  have HB1 : Hid (Below w.heap.size w W1) := by rw [hW1]; exact (Below.refl _ w).alloc (Nat.le_refl _) _
  have hM1 : W1.heap[w.heap.size]? = some (.cells ([d0, d1, d2, d3, d4, d5, d6, d7].map B).toArray 29 (0, 0)) := by rw [hW1]; exact heap_alloc_new w _
  have hix := ixId_any (.slice a1 l.length c1) l _ W1 (h.below HB1.out) h8 ht
  have hd := id_cells hM1

  have y0 : W1.cell? ⟨w.heap.size, 0, none⟩ = some (.int .u8 (d0.toNat : Int)) := hd 0 _ rfl
  have y1 : W1.cell? ⟨w.heap.size, 1, none⟩ = some (.int .u8 (d1.toNat : Int)) := hd 1 _ rfl
  have y2 : W1.cell? ⟨w.heap.size, 2, none⟩ = some (.int .u8 (d2.toNat : Int)) := hd 2 _ rfl
  have y3 : W1.cell? ⟨w.heap.size, 3, none⟩ = some (.int .u8 (d3.toNat : Int)) := hd 3 _ rfl
  have y4 : W1.cell? ⟨w.heap.size, 4, none⟩ = some (.int .u8 (d4.toNat : Int)) := hd 4 _ rfl
  have y5 : W1.cell? ⟨w.heap.size, 5, none⟩ = some (.int .u8 (d5.toNat : Int)) := hd 5 _ rfl
  have y6 : W1.cell? ⟨w.heap.size, 6, none⟩ = some (.int .u8 (d6.toNat : Int)) := hd 6 _ rfl
  have y7 : W1.cell? ⟨w.heap.size, 7, none⟩ = some (.int .u8 (d7.toNat : Int)) := hd 7 _ rfl
  have hix' : Calls Tryz.prog 62 #[.slice a1 l.length c1, .agg #[.int .u8 (d0.toNat : Int), .int .u8 (d1.toNat : Int), .int .u8 (d2.toNat : Int), .int .u8 (d3.toNat : Int), .int .u8 (d4.toNat : Int), .int .u8 (d5.toNat : Int), .int .u8 (d6.toNat : Int), .int .u8 (d7.toNat : Int)]] W1 fun e w' => ∃ r : Int, e = .returned (.int .i64 r) ∧ (0 ≤ r ↔ [d0, d1, d2, d3, d4, d5, d6, d7] ∈ l) ∧ Below W1.heap.size W1 w' := hix
  have hW1' : W1 = w.alloc (.cells #[.int .u8 (d0.toNat : Int), .int .u8 (d1.toNat : Int), .int .u8 (d2.toNat : Int), .int .u8 (d3.toNat : Int), .int .u8 (d4.toNat : Int), .int .u8 (d5.toNat : Int), .int .u8 (d6.toNat : Int), .int .u8 (d7.toNat : Int)] 29) := hW1
  clear hix h h8 hd hM1 hW1
  show Calls Tryz.prog 41 #[.slice a1 l.length c1, .agg #[.int .u8 (d0.toNat : Int), .int .u8 (d1.toNat : Int), .int .u8 (d2.toNat : Int), .int .u8 (d3.toNat : Int), .int .u8 (d4.toNat : Int), .int .u8 (d5.toNat : Int), .int .u8 (d6.toNat : Int), .int .u8 (d7.toNat : Int)]] w _
  go_enter Tryz.func41, Tryz.ntmps41
  go_upto_region 1 with fail
  rw [← hW1']
  obtain ⟨bk, hbk⟩ : ∃ bk, bk = w.heap.size := ⟨_, rfl⟩
  have HBK : Hid (bk = w.heap.size) := hbk
  rw [← hbk] at y0 y1 y2 y3 y4 y5 y6 y7 ⊢
  clear hW1' hbk
  go_wp2_with fail
  refine hix'.mono ?_
  rintro e w2 ⟨r, rfl, hr, b2⟩
  have HB2 : Hid (Below w.heap.size w w2) := HB1.out.trans (b2.mono HB1.out.size)
  have HR : Hid (0 ≤ r ↔ [d0, d1, d2, d3, d4, d5, d6, d7] ∈ l) := hr
  clear hix' b2 hr y0 y1 y2 y3 y4 y5 y6 y7
  go_wp2_with fail
  go_ret
  exact ⟨by rw [show decide ([d0, d1, d2, d3, d4, d5, d6, d7] ∈ l) = decide (0 ≤ r) from decide_eq_decide.2 HR.out.symm]; rfl, HBK.out ▸ HB2.out⟩
end Go.Proofs.YtimdioacmojkeaaGreatDoor

namespace Go.Proofs.YtimdioacmojkeaaGreatDoor
open Go.RowKit
set_option maxRecDepth 4000

theorem needs_turn {out : List (List UInt8)} {ps : List (List UInt8)} {j : Nat} {t : List UInt8} (h : ps[j]? = some t) : Wk.uniq out (ps.take (j + 1)) = if t ∈ Wk.uniq out (ps.take j) then Wk.uniq out (ps.take j) else Wk.uniq out (ps.take j) ++ [t] := by
  rw [List.take_add_one, h, Wk.uniq_app]
  rfl
theorem needs_node {l : List Nod} {k : Nat} {n : Nod} (h : l[k]? = some n) : Wk.uniq [] (((nds l).take (k + 1)).flatMap fun n => n.parts) = Wk.uniq (Wk.uniq [] (((nds l).take k).flatMap fun n => n.parts)) n.parts := by
  rw [List.take_add_one, show (nds l)[k]? = some n.nd from by unfold nds; rw [List.getElem?_map, h]; rfl, List.flatMap_append, Wk.uniq_app]
  simp [Nod.nd]
theorem uniq_len : ∀ (ids out : List (List UInt8)), (Wk.uniq out ids).length ≤ out.length + ids.length
  | [], out => by rw [Wk.uniq_nil]; simp
  | i :: ids, out => by
    rw [Wk.uniq_cons]
    refine Nat.le_trans (uniq_len ids _) ?_
    split <;> simp <;> omega
/-- what Needs answers -/
def NdOut (R : List (List UInt8) × Int) (w : World) (e : Ending) (w' : World) : Prop :=
  ∃ v, e = .returned (.tuple #[v, .int .i64 R.2]) ∧ w'.ownsRow w.heap.size 29 8 v R.1.length (rowR idC R.1) ∧ (∀ t ∈ R.1, t.length = 8) ∧ R.1.length ≤ 20000 ∧ Below w.heap.size w w'
theorem NdOut.none {w w' : World} {e : Int} {R : List (List UInt8) × Int} (hR : R = ([], e)) (hb : Below w.heap.size w w') : NdOut R w (.returned (.tuple #[.slice none 0 0, .int .i64 e])) w' := by
  subst hR
  exact ⟨_, rfl, World.ownsRow_nil _ _ _ _, fun _ h => absurd h List.not_mem_nil, by simp, hb⟩

set_option maxHeartbeats 4000000 in
set_option maxRecDepth 10000 in
theorem needs_any (b : Blb) (w : World) (hb : b.bytes.size ≤ 9223372036854775807) (hT : ∀ W, Below w.heap.size w W → Tabs W) :
    Calls Tryz.prog 21 #[blV b] w (NdOut (Wk.needs b.p) w) := by
  obtain ⟨i0, hi, hz0, hz1, hz2⟩ := info_of' info_id
  have hid := fun W => pid_any b W hb
  obtain ⟨a0, a1, a2, a3, a4, a5, a6, a7, hx⟩ := eight _ (idOr_length b)
  rw [hx] at hid
  obtain ⟨R, hR⟩ : ∃ R, R = Wk.needs b.p := ⟨_, rfl⟩
  have HR : Hid (R = Wk.needs b.p) := hR
  rw [← hR]
  clear hx hR
  obtain ⟨kind, s⟩ := b
  have eV : blV ⟨kind, s⟩ = .agg #[.int .i64 kind, .string s] := rfl
  rw [eV] at hid ⊢
  have hid' : ∀ W, Calls Tryz.prog 20 #[.agg #[.int .i64 kind, .string s]] W fun e w' => e = .returned (.tuple #[.agg #[.int .u8 (a0.toNat : Int), .int .u8 (a1.toNat : Int), .int .u8 (a2.toNat : Int), .int .u8 (a3.toNat : Int), .int .u8 (a4.toNat : Int), .int .u8 (a5.toNat : Int), .int .u8 (a6.toNat : Int), .int .u8 (a7.toNat : Int)], .int .i64 (Pk.bErr (Blb.p ⟨kind, s⟩))]) ∧ Below W.heap.size W w' := hid
  obtain ⟨W1, hW1⟩ : ∃ W1, W1 = w.alloc (.cells #[.int .i64 kind, .string s] 37) := ⟨_, rfl⟩
  have HB1 : Hid (Below w.heap.size w W1) := by rw [hW1]; exact (Below.refl _ w).alloc (Nat.le_refl _) _
  have hM1 : W1.heap[w.heap.size]? = some (.cells #[.int .i64 kind, .string s] 37 (0, 0)) := by rw [hW1]; exact heap_alloc_new w _
  have HM1 : Hid (∀ W, Gw W1 W → W.cell? ⟨w.heap.size, 0, none⟩ = some (.int .i64 kind) ∧ W.cell? ⟨w.heap.size, 1, none⟩ = some (.string s)) := fun W hW =>
    pair_at ((Below.block hW _ (Array.getElem?_eq_some_iff.1 hM1).1).trans hM1)
  obtain ⟨c0, c1⟩ := HM1.out W1 (Gw.refl _)
  have HRd : Hid (R = if Pk.bErr (Blb.p ⟨kind, s⟩) ≠ 0 then ([], Pk.bErr (Blb.p ⟨kind, s⟩)) else if kind ≠ 2 then ([], 0) else if (Td.read s.data.toList).2 ≠ 0 then ([], (Td.read s.data.toList).2) else (Wk.uniq [] ((Td.read s.data.toList).1.flatMap fun n => n.parts), 0)) := HR.out
  have HT : Hid (∀ W, Below w.heap.size w W → Tabs W) := hT
  generalize Pk.bErr (Blb.p ⟨kind, s⟩) = BE at *
  clear hid HR hM1 hT eV
  go_enter Tryz.func21, Tryz.ntmps21
  go_upto_region 1 with fail
  rw [← hW1]
  obtain ⟨bk, hbk⟩ : ∃ bk, bk = w.heap.size := ⟨_, rfl⟩
  have HBK : Hid (bk = w.heap.size) := hbk
  rw [← hbk] at c0 c1 HM1 ⊢
  clear hW1 hbk
  by_cases hE : BE = 0
  case neg =>
    have HRe : Hid (R = ([], BE)) := by show _ = _; rw [HRd.out, if_pos hE]
    have hne : (BE != 0) = true := by rw [bne_iff_ne]; exact hE
    clear HRd hE
    go_wp2_with fail
    refine (hid' _).mono ?_
    rintro e w2 ⟨rfl, b2⟩
    have HB2 : Hid (Below w.heap.size w (w2.alloc (.cells #[.int .u8 (a0.toNat : Int), .int .u8 (a1.toNat : Int), .int .u8 (a2.toNat : Int), .int .u8 (a3.toNat : Int), .int .u8 (a4.toNat : Int), .int .u8 (a5.toNat : Int), .int .u8 (a6.toNat : Int), .int .u8 (a7.toNat : Int)] 29))) := by
      have h := HB1.out.trans (b2.mono HB1.out.size)
      exact h.alloc h.size _
    clear hid' b2 c0 c1
    go_wp2_with fail
    go_ret2
    exact NdOut.none HRe.out HB2.out
  have HRd2 : Hid (R = if kind ≠ 2 then ([], 0) else if (Td.read s.data.toList).2 ≠ 0 then ([], (Td.read s.data.toList).2) else (Wk.uniq [] ((Td.read s.data.toList).1.flatMap fun n => n.parts), 0)) := by show _ = _; rw [HRd.out, if_neg (fun q => q hE)]
  subst hE
  clear HRd
  go_wp2_with fail
  refine (hid' _).mono ?_
  rintro e w2 ⟨rfl, b2⟩
  have HB2 : Hid (Below w.heap.size w (w2.alloc (.cells #[.int .u8 (a0.toNat : Int), .int .u8 (a1.toNat : Int), .int .u8 (a2.toNat : Int), .int .u8 (a3.toNat : Int), .int .u8 (a4.toNat : Int), .int .u8 (a5.toNat : Int), .int .u8 (a6.toNat : Int), .int .u8 (a7.toNat : Int)] 29))) := by
    have h := HB1.out.trans (b2.mono HB1.out.size)
    exact h.alloc h.size _
  have hG2 : Gw W1 w2 := b2
  obtain ⟨c0', c1'⟩ := HM1.out w2 hG2
  have hs2 : bk < w2.heap.size := by
    have := HB1.out.size
    exact World.block_lt_of_cell? _ _ c0'
  clear hid' b2 c0 c1 hG2 HB1
  by_cases hk : kind = 2
  case neg =>
    have HRe : Hid (R = ([], 0)) := by show _ = _; rw [HRd2.out, if_pos hk]
    have hne : (kind != 2) = true := by rw [bne_iff_ne]; exact hk
    clear HRd2 hk
    go_wp2_with fail
    go_ret2
    exact NdOut.none HRe.out HB2.out
  have HRd3 : Hid (R = if (Td.read s.data.toList).2 ≠ 0 then ([], (Td.read s.data.toList).2) else (Wk.uniq [] ((Td.read s.data.toList).1.flatMap fun n => n.parts), 0)) := by show _ = _; rw [HRd2.out, if_neg (fun q => q hk)]
  subst hk
  clear HRd2
  have hrd := tread_any s (w2.alloc (.cells #[.int .u8 (a0.toNat : Int), .int .u8 (a1.toNat : Int), .int .u8 (a2.toNat : Int), .int .u8 (a3.toNat : Int), .int .u8 (a4.toNat : Int), .int .u8 (a5.toNat : Int), .int .u8 (a6.toNat : Int), .int .u8 (a7.toNat : Int)] 29)) hb (HT.out _ HB2.out)
  unfold TgOut at hrd
  go_wp2_with fail
  refine hrd.mono ?_
  rintro e w4 ⟨v4, l4, rfl, hd4, ho4, hl4, hb4⟩
  have HB4 : Hid (Below w.heap.size w w4) := HB2.out.trans (hb4.mono HB2.out.size)
  have HO4 : Hid (Nds w4 v4 l4) := ho4
  obtain ⟨na, nc, rfl⟩ := ho4.slice
  have HD4 : Hid (nds l4 = (Td.read s.data.toList).1) := hd4
  clear hrd hb4 ho4 hd4 c0' c1' hs2
  by_cases hE : (Td.read s.data.toList).2 = 0
  case neg =>
    have HRe : Hid (R = ([], (Td.read s.data.toList).2)) := by show _ = _; rw [HRd3.out, if_pos hE]
    have hne : ((Td.read s.data.toList).2 != 0) = true := by rw [bne_iff_ne]; exact hE
    generalize (Td.read s.data.toList).2 = ER at *
    clear HRd3 hE
    go_wp2_with fail
    go_ret2
    exact NdOut.none HRe.out HB4.out
  have hchk : Td.check (nds l4) = 0 := by
    rw [HD4.out]
    exact (Td.write_read (Prod.ext rfl hE)).2.1
  have HNk : Hid (∀ n ∈ l4, Nk n) := fun n hn => nk_of hchk hn
  obtain ⟨N, hN⟩ : ∃ N, N = l4.length := ⟨_, rfl⟩
  have HN : Hid (N = l4.length) := hN
  have HRn : Hid (R = (Wk.uniq [] (((nds l4).take N).flatMap fun n => n.parts), 0)) := by
    show _ = _
    rw [HRd3.out, if_neg (fun q => q hE), ← HD4.out, hN, ← nds_length l4, List.take_length]
  rw [← hN] at HO4 hl4 ⊢
  rw [hE]
  clear HRd3 hE hchk hN HD4
  go_wp2_with fail
  go_loopw [8, 35] (fun v i wr => ∃ (k : Nat) (o : List (List UInt8)), k ≤ N ∧ i = .int .i64 k ∧ o.length ≤ 300 * k ∧ Hid (o = Wk.uniq [] (((nds l4).take k).flatMap fun n => n.parts)) ∧ Hid (∀ t ∈ o, t.length = 8) ∧ Hid (wr.ownsRow w4.heap.size 29 8 v o.length (rowR idC o)) ∧ Hid (Below w4.heap.size w4 wr)) (fun _ i _ => N - (intOf i).toNat)
  case atStart => exact ⟨0, [], by omega, rfl, by simp, by show _ = _; simp [Wk.uniq_nil], (fun _ h => absurd h List.not_mem_nil), World.ownsRow_nil _ _ _ _, Below.refl _ _⟩
  case round =>
    obtain ⟨k, o, hk, rfl, hol, HU, H8, HO, HB⟩ := hrel
    by_cases hlt : k < N
    · have hjl : k < l4.length := by rw [← HN.out]; exact hlt
      obtain ⟨n, hx⟩ : ∃ n, l4[k]? = some n := ⟨_, List.getElem?_eq_getElem hjl⟩
      have hnk := HNk.out n (List.mem_of_getElem? hx)
      obtain ⟨kb, ko, cs, rfl, hkb, hcl, hng, hcell4⟩ := HO4.out.get k n hx
      have hcell : ∀ (r : Nat) (u : Value), cs[r]? = some u → wr.cell? ⟨kb, ko + k * 7 + r, none⟩ = some u := fun r u hu => (HB.out.cell (p := ⟨kb, ko + k * 7 + r, none⟩) hkb).trans (hcell4 r u hu)
      clear hcell4
      obtain ⟨pv, ecs, hrx, hno⟩ := hng
      subst ecs
      have hmany : n.parts.length ≤ 300 := hnk.many
      have HUn : Hid (Wk.uniq [] (((nds l4).take (k + 1)).flatMap fun n => n.parts) = Wk.uniq o n.parts) := by
        show _ = _
        rw [needs_node hx, HU.out]
      have HP8 : Hid (∀ t ∈ n.parts, t.length = 8) := hno.ids
      have hblk := hno.ids
      obtain ⟨WB, hWB⟩ : ∃ WB, WB = wr.alloc (.cells (ndC n pv).toArray 89) := ⟨_, rfl⟩
      have hbB : Below wr.heap.size wr WB := by rw [hWB]; exact (Below.refl _ wr).alloc (Nat.le_refl _) _
      have HX : Hid (Rx 8 idC w4 pv n.parts) := hrx
      have hMB : WB.heap[wr.heap.size]? = some (.cells (ndC n pv).toArray 89 (0, 0)) := by rw [hWB]; exact heap_alloc_new wr _
      have HBB : Hid (Below w4.heap.size w4 WB) := HB.out.trans (hbB.mono HB.out.size)
      have HOB : Hid (WB.ownsRow w4.heap.size 29 8 u8 o.length (rowR idC o)) := own_below HO.out hbB
      have hszB : wr.heap.size < WB.heap.size := (Array.getElem?_eq_some_iff.1 hMB).1
      obtain ⟨name, kind, mode, time, size, parts, link⟩ := n
      dsimp only [ndC] at *
      obtain ⟨pa, pc, rfl, _, _⟩ := hrx.slice
      obtain ⟨m0, m1, m2, m3, m4, m5, m6⟩ := seven_at hMB
      have x0 := hcell 0 _ rfl
      have x1 := hcell 1 _ rfl
      have x2 := hcell 2 _ rfl
      have x3 := hcell 3 _ rfl
      have x4 := hcell 4 _ rfl
      have x5 := hcell 5 _ rfl
      have x6 := hcell 6 _ rfl
      rw [Nat.add_zero] at x0
      obtain ⟨PL, hPL⟩ : ∃ PL, PL = parts.length := ⟨_, rfl⟩
      have HPL : Hid (PL = parts.length) := hPL
      rw [← hPL] at x5 m5 HX hmany hWB
      clear hcell hrx hno hx hjl hbB HO hcl hnk hkb hMB hPL hblk m0 m1 m2 m3 m4 m6
      go_wp2_with fail
      rw [← hWB]
      obtain ⟨G, hG⟩ : ∃ G, G = wr.heap.size := ⟨_, rfl⟩
      rw [← hG] at m5 ⊢
      clear hWB hszB hG
      go_wp2_with fail
      go_loopw [8, 42] (fun v i wr => ∃ (j : Nat) (oj : List (List UInt8)), j ≤ PL ∧ i = .int .i64 j ∧ oj.length ≤ 300 * k + j ∧ Hid (oj = Wk.uniq o (parts.take j)) ∧ Hid (∀ t ∈ oj, t.length = 8) ∧ Hid (wr.ownsRow w4.heap.size 29 8 v oj.length (rowR idC oj)) ∧ Hid (Below w4.heap.size w4 wr)) (fun _ i _ => PL - (intOf i).toNat)
      case atStart => exact ⟨0, o, by omega, rfl, by omega, by show _ = _; rw [List.take_zero, Wk.uniq_nil], H8, HOB, HBB.out⟩
      case round =>
        clear HOB HBB H8 HU
        obtain ⟨j, oj, hj, rfl, hol2, HU, H8, HO, HB⟩ := hrel
        by_cases hlt2 : j < PL
        · have hjp : j < parts.length := by rw [← HPL.out]; exact hlt2
          obtain ⟨t, ht⟩ : ∃ t, parts[j]? = some t := ⟨_, List.getElem?_eq_getElem hjp⟩
          have ht8 := HP8.out t (List.mem_of_getElem? ht)
          obtain ⟨pk, po, rfl, hpk, hpc⟩ := (HX.out.below HB.out).get j t ht
          have HUt := needs_turn (out := o) ht
          rw [← HU.out] at HUt
          have HU2 : Hid (Wk.uniq o (parts.take (j + 1)) = if t ∈ oj then oj else oj ++ [t]) := HUt
          obtain ⟨W2, hW2⟩ : ∃ W2, W2 = wr.alloc (.cells (t.map B).toArray 29) := ⟨_, rfl⟩
          have hb2 : Below wr.heap.size wr W2 := by rw [hW2]; exact (Below.refl _ wr).alloc (Nat.le_refl _) _
          have hM2 : W2.heap[wr.heap.size]? = some (.cells (t.map B).toArray 29 (0, 0)) := by rw [hW2]; exact heap_alloc_new wr _
          have HB2 : Hid (Below w4.heap.size w4 W2) := HB.out.trans (hb2.mono HB.out.size)
          have hO2 : W2.ownsRow w4.heap.size 29 8 u8 oj.length (rowR idC oj) := own_below HO.out hb2
          have HO2 : Hid (W2.ownsRow w4.heap.size 29 8 u8 oj.length (rowR idC oj)) := hO2
          have hrx2 : Rx 8 idC W2 u8 oj := rx_own hO2 rfl H8.out
          have hhas := hasId_any u8 oj t W2 hrx2 H8.out ht8
          have hsz2 : wr.heap.size < W2.heap.size := (Array.getElem?_eq_some_iff.1 hM2).1
          obtain ⟨b0, b1, b2, b3, b4, b5, b6, b7, rfl⟩ := oct8 ht8
          have x0 : wr.cell? ⟨pk, po + j * 8, none⟩ = some (.int .u8 (b0.toNat : Int)) := hpc 0 _ rfl
          have x1 : wr.cell? ⟨pk, po + j * 8 + 1, none⟩ = some (.int .u8 (b1.toNat : Int)) := hpc 1 _ rfl
          have x2 : wr.cell? ⟨pk, po + j * 8 + 2, none⟩ = some (.int .u8 (b2.toNat : Int)) := hpc 2 _ rfl
          have x3 : wr.cell? ⟨pk, po + j * 8 + 3, none⟩ = some (.int .u8 (b3.toNat : Int)) := hpc 3 _ rfl
          have x4 : wr.cell? ⟨pk, po + j * 8 + 4, none⟩ = some (.int .u8 (b4.toNat : Int)) := hpc 4 _ rfl
          have x5 : wr.cell? ⟨pk, po + j * 8 + 5, none⟩ = some (.int .u8 (b5.toNat : Int)) := hpc 5 _ rfl
          have x6 : wr.cell? ⟨pk, po + j * 8 + 6, none⟩ = some (.int .u8 (b6.toNat : Int)) := hpc 6 _ rfl
          have x7 : wr.cell? ⟨pk, po + j * 8 + 7, none⟩ = some (.int .u8 (b7.toNat : Int)) := hpc 7 _ rfl
          have hW2' : W2 = wr.alloc (.cells #[.int .u8 (b0.toNat : Int), .int .u8 (b1.toNat : Int), .int .u8 (b2.toNat : Int), .int .u8 (b3.toNat : Int), .int .u8 (b4.toNat : Int), .int .u8 (b5.toNat : Int), .int .u8 (b6.toNat : Int), .int .u8 (b7.toNat : Int)] 29) := hW2
          obtain ⟨y0, y1, y2, y3, y4, y5, y6, y7⟩ := (I8.laid hM2).cells
          have hhas' : Calls Tryz.prog 41 #[u8, .agg #[.int .u8 (b0.toNat : Int), .int .u8 (b1.toNat : Int), .int .u8 (b2.toNat : Int), .int .u8 (b3.toNat : Int), .int .u8 (b4.toNat : Int), .int .u8 (b5.toNat : Int), .int .u8 (b6.toNat : Int), .int .u8 (b7.toNat : Int)]] W2 fun e w' => e = .returned (.bool (decide ([b0, b1, b2, b3, b4, b5, b6, b7] ∈ oj))) ∧ Below W2.heap.size W2 w' := hhas
          clear hhas hpc hM2 hW2 ht ht8 HUt hO2 hrx2 hb2 HO
          by_cases hin : [b0, b1, b2, b3, b4, b5, b6, b7] ∈ oj
          · have HU3 : Hid (oj = Wk.uniq o (parts.take (j + 1))) := by show _ = _; rw [HU2.out, if_pos hin]
            rw [decide_eq_true hin] at hhas'
            clear hin HU2 HU
            go_wp2_with fail
            rw [← hW2']
            obtain ⟨G2, hG2⟩ : ∃ G2, G2 = wr.heap.size := ⟨_, rfl⟩
            rw [← hG2] at y0 y1 y2 y3 y4 y5 y6 y7 ⊢
            clear hW2' hG2
            go_wp2_with fail
            refine hhas'.mono ?_
            rintro e w5 ⟨rfl, b5⟩
            have HB5 : Hid (Below w4.heap.size w4 w5) := HB2.out.trans (b5.mono HB2.out.size)
            have HO5 : Hid (w5.ownsRow w4.heap.size 29 8 u8 oj.length (rowR idC oj)) := own_below HO2.out b5
            clear hhas' b5 y0 y1 y2 y3 y4 y5 y6 y7 x0 x1 x2 x3 x4 x5 x6 x7
            go_wp2_with fail
            go_roundw
            case rel => exact ⟨j + 1, oj, by omega, by go_num, by omega, HU3, H8, HO5, HB5⟩
            case measure => simp only [intOf]; omega
          · have HU3 : Hid (oj ++ [[b0, b1, b2, b3, b4, b5, b6, b7]] = Wk.uniq o (parts.take (j + 1))) := by show _ = _; rw [HU2.out, if_neg hin]
            have H83 : Hid (∀ t ∈ oj ++ [[b0, b1, b2, b3, b4, b5, b6, b7]], t.length = 8) := fun t ht => by
              rcases List.mem_append.1 ht with q | q
              · exact H8.out t q
              · rw [List.mem_singleton.1 q]; rfl
            rw [decide_eq_false hin] at hhas'
            clear hin HU2 HU H8
            go_wp2_with fail
            rw [← hW2']
            obtain ⟨G2, hG2⟩ : ∃ G2, G2 = wr.heap.size := ⟨_, rfl⟩
            have HG2 : Hid (G2 < W2.heap.size) := by rw [hG2]; exact hsz2
            rw [← hG2] at y0 y1 y2 y3 y4 y5 y6 y7 ⊢
            clear hW2' hG2 hsz2
            go_wp2_with fail
            refine hhas'.mono ?_
            rintro e w5 ⟨rfl, b5⟩
            have HB5 : Hid (Below w4.heap.size w4 w5) := HB2.out.trans (b5.mono HB2.out.size)
            have hO5 : w5.ownsRow w4.heap.size 29 8 u8 oj.length (rowR idC oj) := own_below HO2.out b5
            have z0 := (b5.cell (p := ⟨G2, 0, none⟩) HG2.out).trans y0
            have z1 := (b5.cell (p := ⟨G2, 1, none⟩) HG2.out).trans y1
            have z2 := (b5.cell (p := ⟨G2, 2, none⟩) HG2.out).trans y2
            have z3 := (b5.cell (p := ⟨G2, 3, none⟩) HG2.out).trans y3
            have z4 := (b5.cell (p := ⟨G2, 4, none⟩) HG2.out).trans y4
            have z5 := (b5.cell (p := ⟨G2, 5, none⟩) HG2.out).trans y5
            have z6 := (b5.cell (p := ⟨G2, 6, none⟩) HG2.out).trans y6
            have z7 := (b5.cell (p := ⟨G2, 7, none⟩) HG2.out).trans y7
            clear hhas' b5 y0 y1 y2 y3 y4 y5 y6 y7 x0 x1 x2 x3 x4 x5 x6 x7 HO2
            have hs5 := HB5.out.size
            go_wp2_with (at_builtin; refine wpList_append_own _ rfl (.tmp 50) (.tmp 52) 53 rfl w4.heap.size 29 i0 (.agg #[.int .u8 0, .int .u8 0, .int .u8 0, .int .u8 0, .int .u8 0, .int .u8 0, .int .u8 0, .int .u8 0]) 8 8 Tryz.underlying53 hi hz0 hz1 hz2 rfl (by decide) _ _ _ rfl (hO5.alloc _) ⟨w5.heap.size, 0, none⟩ 1 1 [.int .u8 (b0.toNat : Int), .int .u8 (b1.toNat : Int), .int .u8 (b2.toNat : Int), .int .u8 (b3.toNat : Int), .int .u8 (b4.toNat : Int), .int .u8 (b5.toNat : Int), .int .u8 (b6.toNat : Int), .int .u8 (b7.toNat : Int)] rfl rfl ?c1 ?c2 ?c3 ?c4 ?c5 ?_)
            case c1 => exact eight_new w5 (.int .u8 (b0.toNat : Int)) (.int .u8 (b1.toNat : Int)) (.int .u8 (b2.toNat : Int)) (.int .u8 (b3.toNat : Int)) (.int .u8 (b4.toNat : Int)) (.int .u8 (b5.toNat : Int)) (.int .u8 (b6.toNat : Int)) (.int .u8 (b7.toNat : Int))
            case c2 => simp [Value.oneCell']
            case c3 => unfold maxLen; omega
            case c4 => omega
            case c5 => simp; omega
            intro v6 w6 hown6 hgrow _
            have hO5' := hO5.alloc (.cells #[.int .u8 (b0.toNat : Int), .int .u8 (b1.toNat : Int), .int .u8 (b2.toNat : Int), .int .u8 (b3.toNat : Int), .int .u8 (b4.toNat : Int), .int .u8 (b5.toNat : Int), .int .u8 (b6.toNat : Int), .int .u8 (b7.toNat : Int)] 29)
            have hb6 : Below w4.heap.size w5 w6 := ((Below.refl _ w5).alloc hs5 _).grown hgrow (by simp; omega) fun q hq => (hO5'.lt q hq).1
            have HB6 : Hid (Below w4.heap.size w4 w6) := HB5.out.trans hb6
            have HO6 : Hid (w6.ownsRow w4.heap.size 29 8 v6 (oj ++ [[b0, b1, b2, b3, b4, b5, b6, b7]]).length (rowR idC (oj ++ [[b0, b1, b2, b3, b4, b5, b6, b7]]))) := by
              show World.ownsRow _ _ _ _ _ _ _
              rw [rowR_more, List.length_append]
              exact hown6
            have hl6 : (oj ++ [[b0, b1, b2, b3, b4, b5, b6, b7]]).length ≤ 300 * k + (j + 1) := by rw [List.length_append, List.length_singleton]; omega
            clear hown6 hgrow hO5 hO5' hb6 HB5 z0 z1 z2 z3 z4 z5 z6 z7
            go_wp2_with fail
            go_roundw
            case rel => exact ⟨j + 1, _, by omega, by go_num, hl6, HU3, H83, HO6, HB6⟩
            case measure => simp only [intOf]; omega
        · obtain rfl : j = PL := by omega
          have HUk : Hid (oj = Wk.uniq [] (((nds l4).take (k + 1)).flatMap fun n => n.parts)) := by
            show _ = _
            rw [HUn.out, HU.out, List.take_of_length_le (by rw [← HPL.out]; omega)]
          have hlk : oj.length ≤ 300 * (k + 1) := by omega
          go_wp2_with fail
          go_roundw
          case rel => exact ⟨k + 1, oj, by omega, by go_num, hlk, HUk, H8, HO, HB⟩
          case measure => simp only [intOf]; omega
    · obtain rfl : k = N := by omega
      have HRe : Hid (R = (o, 0)) := by show _ = _; rw [HRn.out, HU.out]
      have hol' : o.length ≤ 20000 := by omega
      have HBz : Hid (Below w.heap.size w wr) := HB4.out.trans (HB.out.mono HB4.out.size)
      have HOz : Hid (wr.ownsRow w.heap.size 29 8 u8 o.length (rowR idC o)) := own_lower HO.out HB4.out.size
      go_wp2_with fail
      go_ret2
      exact ⟨_, by rw [HRe.out]; rfl, by rw [HRe.out]; exact HOz.out, by rw [HRe.out]; exact H8.out, by rw [HRe.out]; exact hol', HBz.out⟩
end Go.Proofs.YtimdioacmojkeaaGreatDoor

namespace Go.Proofs.YtimdioacmojkeaaGreatDoor
namespace Wk
open Pk (Bl)

theorem told_needs {ahead : List Bl} {b : Bl} (h : Told ahead b) (hb : Pk.bErr b = 0) : (needs b).2 = 0 ∧ ∀ t ∈ (needs b).1, t ∈ ahead.map Pk.bid := by
  unfold needs
  rw [if_neg (by simp [hb])]
  split
  · exact ⟨rfl, fun t ht => absurd ht List.not_mem_nil⟩
  rename_i h2
  obtain ⟨nodes, hr, hn⟩ := h (Decidable.not_not.mp h2)
  rw [hr]
  simp only [ne_eq, not_true, if_false]
  refine ⟨trivial, fun t ht => ?_⟩
  rcases (mem_uniq _ _ _).1 ht with q | q
  · exact absurd q List.not_mem_nil
  · obtain ⟨n, hnm, htn⟩ := List.mem_flatMap.1 q
    obtain ⟨c, hc, e⟩ := hn n hnm t htn
    exact List.mem_map.2 ⟨c, hc, e⟩
/-- what is sure of a planted world's blobs -/
structure Onc (l : List Bl) (root : Bs) : Prop where
  ok : ∀ b ∈ l, Pk.bErr b = 0
  nd : (l.map Pk.bid).Nodup
  ne : l ≠ []
  told : ∀ i b, l[i]? = some b → (needs b).2 = 0 ∧ ∀ t ∈ (needs b).1, t ∈ (l.take i).map Pk.bid
  last : ∀ i b, l[i]? = some b → (Pk.bid b = root ↔ i = l.length - 1)
  need : ∀ b ∈ l, Pk.bid b ≠ root → ∃ t ∈ l, Pk.bid b ∈ (needs t).1
theorem nodup_idx {l : List Bl} (h : (l.map Pk.bid).Nodup) {i j : Nat} {a b : Bl} (ha : l[i]? = some a) (hb : l[j]? = some b) (e : Pk.bid a = Pk.bid b) : i = j := by
  have hi := (List.getElem?_eq_some_iff.1 ha).1
  have hj := (List.getElem?_eq_some_iff.1 hb).1
  have h1 : (l.map Pk.bid)[i]'(by simpa using hi) = Pk.bid a := by simp [(List.getElem?_eq_some_iff.1 ha).2]
  have h2 : (l.map Pk.bid)[j]'(by simpa using hj) = Pk.bid b := by simp [(List.getElem?_eq_some_iff.1 hb).2]
  exact (List.getElem_inj h).1 (h1.trans (e.trans h2.symm))
theorem once_all {cutf : Bs → List Bs} {w : List It} (hg : Good cutf w) (hw : w.length ≤ 100) {l : List Bl} {id : Bs} (h : plantDir cutf w 9 [] [] = (l, id, 0)) : Onc l id := by
  obtain ⟨hF, hnd, htold⟩ := told_once hg h
  obtain ⟨hid, hl⟩ := plant_pure cutf w 9 [] [] l id h
  have hrl := root_last hg hw h
  have hb9 : blobsOf cutf w 9 [] = (kids It.nms w []).flatMap (blobsIn cutf (blobsOf cutf w 8)) ++ [((2, tx cutf w 9 []) : Bl)] := rfl
  obtain ⟨A, hA⟩ : ∃ A, A = (kids It.nms w []).flatMap (blobsIn cutf (blobsOf cutf w 8)) := ⟨_, rfl⟩
  rw [← hA] at hb9 hrl
  have hl2 : l = tell [] A ++ [((2, tx cutf w 9 []) : Bl)] := by
    rw [hl, hb9, tell_snoc, if_neg]
    rw [mem_tell]
    rintro (q | q)
    · exact absurd q List.not_mem_nil
    · exact hrl q
  have hlast : l[l.length - 1]? = some ((2, tx cutf w 9 []) : Bl) := by rw [hl2]; simp
  refine ⟨hF.ok, hnd, by rw [hl2]; simp, fun i b hb => told_needs (htold i b hb) (hF.ok b (List.mem_of_getElem? hb)), fun i b hb => ⟨fun e => ?_, fun e => ?_⟩, fun b hb hne => ?_⟩
  · exact nodup_idx hnd hb hlast (e.trans hid)
  · subst e
    rw [hlast] at hb
    rw [← Option.some.inj hb, hid]
  · have hmem : b ∈ blobsOf cutf w 9 [] := by
      rw [hl] at hb
      rcases (mem_tell _ _ _).1 hb with q | q
      · exact absurd q List.not_mem_nil
      · exact q
    rcases all_needed hg 9 [] [] l id h b hmem with e | ⟨t, ht, t2, nodes, hr, n, hn, hp⟩
    · exact absurd (by rw [e, hid]) hne
    · have htl : t ∈ l := by rw [hl]; exact (mem_tell _ _ _).2 (.inr ht)
      refine ⟨t, htl, ?_⟩
      unfold needs
      rw [if_neg (by simp [hF.ok t htl]), if_neg (by simp [t2]), hr]
      simp only [ne_eq, not_true, if_false]
      exact (mem_uniq _ _ _).2 (.inr (List.mem_flatMap.2 ⟨n, hn, hp⟩))
/-- what all of them need, each once: so many as there are blobs but for the root, which nobody needs -/
theorem Onc.few {l : List Bl} {root : Bs} (h : Onc l root) {K : List Bs} (hK : K.Nodup) (hm : ∀ t, t ∈ K ↔ ∃ b ∈ l, t ∈ (needs b).1) : K.length = l.length - 1 ∧ root ∉ K := by
  have hlen : 0 < l.length := List.length_pos_iff.2 h.ne
  have hroot : ∀ t, (∃ b ∈ l, t ∈ (needs b).1) → ∃ j c, j < l.length - 1 ∧ l[j]? = some c ∧ Pk.bid c = t := by
    rintro t ⟨b, hb, ht⟩
    obtain ⟨i, hi, e⟩ := List.getElem_of_mem hb
    have hib : l[i]? = some b := by rw [← e]; exact List.getElem?_eq_getElem hi
    obtain ⟨c, hc, ec⟩ := List.mem_map.1 ((h.told i b hib).2 t ht)
    obtain ⟨j, hj, e2⟩ := List.getElem_of_mem hc
    rw [List.length_take] at hj
    refine ⟨j, c, by omega, ?_, ec⟩
    rw [List.getElem_take] at e2
    rw [← e2]
    exact List.getElem?_eq_getElem (by omega)
  have hl2 : List.Perm ((l.take (l.length - 1)).map Pk.bid) K := by
    have hn1 : ((l.take (l.length - 1)).map Pk.bid).Nodup := List.Sublist.nodup (List.Sublist.map _ (List.take_sublist _ _)) h.nd
    refine (List.perm_ext_iff_of_nodup hn1 hK).2 fun t => ?_
    rw [hm]
    constructor
    · intro ht
      obtain ⟨c, hc, rfl⟩ := List.mem_map.1 ht
      obtain ⟨j, hj, e⟩ := List.getElem_of_mem hc
      rw [List.length_take] at hj
      rw [List.getElem_take] at e
      have hjc : l[j]? = some c := by rw [← e]; exact List.getElem?_eq_getElem (by omega)
      exact h.need c (List.mem_of_getElem? hjc) fun q => by
        have := (h.last j c hjc).1 q
        omega
    · intro ht
      obtain ⟨j, c, hj, hc, rfl⟩ := hroot t ht
      refine List.mem_map.2 ⟨c, ?_, rfl⟩
      exact List.mem_of_getElem? (i := j) (by rw [List.getElem?_take, if_pos hj]; exact hc)
  refine ⟨?_, fun hr => ?_⟩
  · rw [← hl2.length_eq, List.length_map, List.length_take]
    omega
  · obtain ⟨j, c, hj, hc, e⟩ := hroot root ((hm root).1 hr)
    have := (h.last j c hc).1 e
    omega
end Wk
end Go.Proofs.YtimdioacmojkeaaGreatDoor

namespace Go.Proofs.YtimdioacmojkeaaGreatDoor
open Go.RowKit Go.WideMaps

theorem under_count : Tryz.prog.underlying 50 = some (.map 29 3) := by kernel_rfl

theorem zero_count (w : World) : (zeroValue 3).run Tryz.prog w = .ok (.int .i64 0) w := by go_simp

theorem plant_bad1 {fx mn mx bt : Int} {v : Value} {l : List Im} {w : World} (h : Ims w v l) (hl : l.length ≤ 140737488351232) (hok : ∀ x ∈ l, x.Ok) (hT : Tabs w) {E : Int} (hE : E = (plantP fx mn mx bt (its l)).2.2) (h0 : E ≠ 0) :
    Calls Tryz.prog 7 #[wayV fx mn mx bt, v] w fun e w' => e = .returned (.tuple #[.slice none 0 0, .agg #[.int .u8 0, .int .u8 0, .int .u8 0, .int .u8 0, .int .u8 0, .int .u8 0, .int .u8 0, .int .u8 0], .int .i64 E]) ∧ Below w.heap.size w w' := by
  refine (plant_any fx mn mx bt v l w h hl hok hT).mono ?_
  rintro e w' ⟨v', id, he, h8, hb, hk, _⟩
  rw [← hE] at he hk
  obtain ⟨rfl, rfl⟩ := hk h0
  exact ⟨by rw [he]; rfl, hb⟩

set_option maxRecDepth 20000 in
set_option maxHeartbeats 4000000 in
theorem walkOnce_walk (fx mn mx bt : Int) (v : Value) (l : List Im) (z : l.length ≤ 140737488351232) (f : ∀ x ∈ l, x.Ok) (w : World) (t : Ims w v l) (hT : Tabs w) :
    Calls Tryz.prog 6 #[wayV fx mn mx bt, v] w fun e w' => e = .returned (.bool true) ∧ Below w.heap.size w w' := by
  obtain ⟨W1, hW1⟩ : ∃ W1, W1 = w.alloc (.cells #[.int .i64 fx, .int .i64 mn, .int .i64 mx, .int .i64 bt] 25) := ⟨_, rfl⟩
  have HB1 : Hid (Below w.heap.size w W1) := by rw [hW1]; exact (Below.refl _ w).alloc (Nat.le_refl _) _
  have c0 : W1.cell? ⟨w.heap.size, 0, none⟩ = some (.int .i64 fx) := by rw [hW1]; simp
  have c1 : W1.cell? ⟨w.heap.size, 1, none⟩ = some (.int .i64 mn) := by rw [hW1]; simp
  have c2 : W1.cell? ⟨w.heap.size, 2, none⟩ = some (.int .i64 mx) := by rw [hW1]; simp
  have c3 : W1.cell? ⟨w.heap.size, 3, none⟩ = some (.int .i64 bt) := by rw [hW1]; simp
  have hs1 : w.heap.size < W1.heap.size := by rw [hW1]; simp
  have HX : Hid (Ims w v l) := t
  have HT : Hid (Tabs w) := hT
  have HF : Hid (∀ x ∈ l, x.Ok) := f
  have HZ : Hid (l.length ≤ 140737488351232) := z
  have hwk := walked_any W1 (hT.below HB1.out)
  obtain ⟨P, hP⟩ : ∃ P, P = plantP fx mn mx bt (its l) := ⟨_, rfl⟩
  have HP : Hid (P = plantP fx mn mx bt (its l)) := hP
  obtain ⟨aa, ca, rfl, _, _⟩ := t.slice
  obtain ⟨NL, hNL⟩ : ∃ N, N = l.length := ⟨_, rfl⟩
  have HNL : Hid (NL = l.length) := hNL
  rw [← hNL] at HX ⊢
  clear t hT f z hP hNL
  go_enter Tryz.func6, Tryz.ntmps6
  go_upto_region 1 with fail
  rw [← hW1]
  obtain ⟨p1, hp1⟩ : ∃ p1, p1 = w.heap.size := ⟨_, rfl⟩
  rw [← hp1] at c0 c1 c2 c3 hs1 ⊢
  clear hW1 hp1
  go_wp2_with fail
  refine hwk.mono ?_
  rintro e w2 ⟨rfl, b2⟩
  have HB2 : Hid (Below w.heap.size w w2) := HB1.out.trans (b2.mono HB1.out.size)
  have d0 := (b2.cell (p := ⟨p1, 0, none⟩) hs1).trans c0
  have d1 := (b2.cell (p := ⟨p1, 1, none⟩) hs1).trans c1
  have d2 := (b2.cell (p := ⟨p1, 2, none⟩) hs1).trans c2
  have d3 := (b2.cell (p := ⟨p1, 3, none⟩) hs1).trans c3
  have HX2 : Hid (Ims w2 (.slice aa NL ca) l) := HX.out.below HB2.out
  clear hwk b2 c0 c1 c2 c3 hs1
  by_cases hE : P.2.2 = 0
  case neg =>
    have hpl := plant_bad1 (fx := fx) (mn := mn) (mx := mx) (bt := bt) HX2.out HZ.out HF.out (HT.out.below HB2.out) (E := P.2.2) (by rw [HP.out]) hE
    have hne : (P.2.2 != 0) = true := by rw [bne_iff_ne]; exact hE
    generalize P.2.2 = E at *
    clear hE
    go_wp2_with fail
    refine hpl.mono ?_
    rintro e w3 ⟨rfl, b3⟩
    have HB4 : Hid (∀ o, Below w.heap.size w (w3.alloc o)) := fun o => by
      have h := HB2.out.trans (b3.mono HB2.out.size)
      exact h.alloc h.size _
    clear hpl b3
    go_wp2_with fail
    go_ret
    exact ⟨rfl, HB4.out _⟩
  have hpl := plant_ok (fx := fx) (mn := mn) (mx := mx) (bt := bt) HX2.out HZ.out HF.out (HT.out.below HB2.out) HP.out hE
  have HPl : Hid (Wk.Onc P.1 P.2.1) := by
    have h : Pld fx mn mx bt l P.1 P.2.1 := by rw [HP.out]; exact Pld.of HF.out (by rw [← HP.out]; exact hE)
    exact Wk.once_all h.good h.few h.plant
  clear hE
  go_wp2_with fail
  refine hpl.mono ?_
  rintro e w3 ⟨v3, bs, rfl, hbs, h8, o3, x3, k3, n3, b3⟩
  have HB3 : Hid (Below w.heap.size w w3) := HB2.out.trans (b3.mono HB2.out.size)
  obtain ⟨d0', d1', d2', d3', d4', d5', d6', d7', hid⟩ := eight _ h8
  have hag : idV [d0', d1', d2', d3', d4', d5', d6', d7'] = .agg #[.int .u8 (d0'.toNat : Int), .int .u8 (d1'.toNat : Int), .int .u8 (d2'.toNat : Int), .int .u8 (d3'.toNat : Int), .int .u8 (d4'.toNat : Int), .int .u8 (d5'.toNat : Int), .int .u8 (d6'.toNat : Int), .int .u8 (d7'.toNat : Int)] := rfl
  have HON : Hid (Wk.Onc (pl bs) [d0', d1', d2', d3', d4', d5', d6', d7']) := by
    show Wk.Onc _ _
    rw [hbs, ← hid]; exact HPl.out
  rw [hid, hag]
  have HBO : Hid (BOk bs) := k3
  obtain ⟨a3, c3, e3, _, _⟩ := x3.slice
  subst e3
  obtain ⟨N, hN⟩ : ∃ N, N = bs.length := ⟨_, rfl⟩
  have HN : Hid (N = bs.length) := hN
  rw [← hN] at x3 n3 ⊢
  have HN1 : 1 ≤ N := by
    have := List.length_pos_iff.2 HON.out.ne
    rw [pl_length] at this
    omega
  obtain ⟨W4, hW4⟩ : ∃ W4, W4 = w3.alloc (.cells #[.int .u8 (d0'.toNat : Int), .int .u8 (d1'.toNat : Int), .int .u8 (d2'.toNat : Int), .int .u8 (d3'.toNat : Int), .int .u8 (d4'.toNat : Int), .int .u8 (d5'.toNat : Int), .int .u8 (d6'.toNat : Int), .int .u8 (d7'.toNat : Int)] 29) := ⟨_, rfl⟩
  have h34 : Below w3.heap.size w3 W4 := by rw [hW4]; exact (Below.refl _ w3).alloc (Nat.le_refl _) _
  have HB4 : Hid (Below w.heap.size w W4) := HB3.out.trans (h34.mono HB3.out.size)
  have HX4 : Hid (Bx W4 (.slice a3 N c3) bs) := x3.below h34
  have HI4 : Hid (I8 W4 w3.heap.size [d0', d1', d2', d3', d4', d5', d6', d7']) := by rw [hW4]; exact I8.laid (heap_alloc_new w3 _)
  clear hpl b3 h8 o3 hbs hid x3 k3 hag h34 hN d0 d1 d2 d3
  go_upto_region 6 with fail
  rw [← hW4]
  obtain ⟨p2, hp2⟩ : ∃ p2, p2 = w3.heap.size := ⟨_, rfl⟩
  rw [← hp2] at HI4 ⊢
  clear hW4 hp2
  have hmk1 := run_makeMap (P := Tryz.prog) 50 W4
  have hmk2 := run_makeMap (P := Tryz.prog) 50 (W4.alloc (.map #[] 0))
  obtain ⟨W5, hW5⟩ : ∃ W5, W5 = (W4.alloc (.map #[] 0)).alloc (.map #[] 0) := ⟨_, rfl⟩
  have h45 : Below W4.heap.size W4 W5 := by rw [hW5]; exact ((Below.refl _ W4).alloc (Nat.le_refl _) _).alloc (by simp) _
  have HM5 : Hid (Mk W5 W4.heap.size 0 [] ∧ Mk W5 (W4.heap.size + 1) 0 []) := by
    rw [hW5]
    refine ⟨(Mk.new W4).below ((Below.refl _ _).alloc (Nat.le_refl _) _), ?_⟩
    have := Mk.new (W4.alloc (.map #[] 0))
    rwa [World.size_alloc] at this
  have HB5 : Hid (Below w.heap.size w W5) := HB4.out.trans (h45.mono HB4.out.size)
  have HX5 : Hid (Bx W5 (.slice a3 N c3) bs) := HX4.out.below h45
  have HI5 : Hid (I8 W5 p2 [d0', d1', d2', d3', d4', d5', d6', d7']) := HI4.out.below h45 HI4.out.lt
  obtain ⟨m1, hm1⟩ : ∃ m1, m1 = W4.heap.size := ⟨_, rfl⟩
  have HL : Hid (w.heap.size ≤ m1 ∧ p2 < m1) := ⟨by rw [hm1]; exact HB4.out.size, by rw [hm1]; exact HI4.out.lt⟩
  have HB45 : Hid (Below W4.heap.size W4 W5) := h45
  have Hm1 : Hid (m1 = W4.heap.size) := hm1
  rw [← hm1] at HM5
  clear h45
  go_wp2_with fail
  rw [← hW5, ← hm1]
  clear hmk1 hmk2 hW5 hm1
  clear HI5 HB5 HX5
  go_loopw [36] (fun i wr => ∃ (j : Nat) (K : List (List UInt8)), j ≤ N ∧ i = .int .i64 j ∧ Hid ((∃ n1, n1 ≤ j ∧ Mk wr m1 n1 ((pl (bs.take j)).map Pk.bid)) ∧ (∃ n2, n2 ≤ j * 20000 ∧ Mk wr (m1 + 1) n2 K) ∧ K.Nodup ∧ (∀ t, t ∈ K ↔ ∃ b ∈ pl (bs.take j), t ∈ (Wk.needs b).1) ∧ Below W4.heap.size W4 wr)) (fun i _ => N - (intOf i).toNat)
  case atStart => exact ⟨0, [], by omega, rfl, ⟨0, Nat.le_refl _, HM5.out.1⟩, ⟨0, by omega, HM5.out.2⟩, List.nodup_nil, fun t => by simp [pl], HB45.out⟩
  case round =>
    clear HM5 HB45
    obtain ⟨j, K, hj, rfl, HI⟩ := hrel
    obtain ⟨⟨n1, hn1, hk1⟩, ⟨n2, hn2, hk2⟩, hnd, hmem, hbw⟩ := HI.out
    have HK1 : Hid (Mk wr m1 n1 ((pl (bs.take j)).map Pk.bid)) := hk1
    have HK2 : Hid (Mk wr (m1 + 1) n2 K) := hk2
    have HKM : Hid (K.Nodup ∧ ∀ t, t ∈ K ↔ ∃ b ∈ pl (bs.take j), t ∈ (Wk.needs b).1) := ⟨hnd, hmem⟩
    have HBW : Hid (Below W4.heap.size W4 wr) := hbw
    have HBR : Hid (Below w.heap.size w wr) := HB4.out.trans (hbw.mono HB4.out.size)
    have HNN : Hid (n1 ≤ j ∧ n2 ≤ j * 20000 ∧ N ≤ 1000000) := ⟨hn1, hn2, n3⟩
    have HIR : Hid (I8 wr p2 [d0', d1', d2', d3', d4', d5', d6', d7']) := HI4.out.below hbw HI4.out.lt
    clear HI hk1 hk2 hnd hmem hn1 hn2
    by_cases hlt : j < N
    · have hjl : j < bs.length := by rw [← HN.out]; exact hlt
      obtain ⟨x, hx⟩ : ∃ x, bs[j]? = some x := ⟨_, List.getElem?_eq_getElem hjl⟩
      have hxp : (pl bs)[j]? = some x.p := by rw [pl, List.getElem?_map, hx]; rfl
      have htk : (pl bs).take j = pl (bs.take j) := by rw [pl, pl, List.map_take]
      have htk1 : pl (bs.take (j + 1)) = pl (bs.take j) ++ [x.p] := by rw [List.take_add_one, hx]; exact pl_snoc _ _
      obtain ⟨hnd0, htold⟩ := HON.out.told j x.p hxp
      rw [htk] at htold
      have hlast := HON.out.last j x.p hxp
      rw [pl_length, ← HN.out] at hlast
      have hbe : Pk.bErr x.p = 0 := HON.out.ok x.p (List.mem_of_getElem? hxp)
      have hnot : Pk.bid x.p ∉ (pl (bs.take j)).map Pk.bid := by
        intro hm
        obtain ⟨y, hy, e⟩ := List.mem_map.1 hm
        rw [← htk] at hy
        obtain ⟨i, hi, ey⟩ := List.getElem_of_mem hy
        rw [List.length_take] at hi
        rw [List.getElem_take] at ey
        have hiy : (pl bs)[i]? = some y := by rw [← ey]; exact List.getElem?_eq_getElem (by omega)
        have := Wk.nodup_idx HON.out.nd hiy hxp e
        omega
      obtain ⟨bk, o, rfl, hbk, c0, c1⟩ := (HX4.out.below hbw).blob j x hx
      have hxo := HBO.out x (List.mem_of_getElem? hx)
      obtain ⟨W6, hW6⟩ : ∃ W6, W6 = wr.alloc (.cells #[.int .i64 x.kind, .string x.bytes] 37) := ⟨_, rfl⟩
      have hb6 : Below wr.heap.size wr W6 := by rw [hW6]; exact (Below.refl _ wr).alloc (Nat.le_refl _) _
      have HB6 : Hid (Below wr.heap.size wr W6) := hb6
      have e0 : W6.cell? ⟨wr.heap.size, 0, none⟩ = some (.int .i64 x.kind) := by rw [hW6]; simp
      have e1 : W6.cell? ⟨wr.heap.size, 1, none⟩ = some (.string x.bytes) := by rw [hW6]; simp
      have hs6 : wr.heap.size < W6.heap.size := by rw [hW6]; simp
      have hid := pid_any x W6 hxo.2
      have hie : idOr x = Pk.bid x.p := by unfold idOr; rw [if_pos hbe]
      rw [hie, hbe] at hid
      obtain ⟨b0, b1, b2, b3, b4, b5, b6, b7, hL⟩ := eight _ (Pk.bid_length x.p)
      rw [hL] at hid hnot hlast
      have HL8 : Hid (Pk.bid x.p = [b0, b1, b2, b3, b4, b5, b6, b7]) := hL
      have hid' : Calls Tryz.prog 20 #[.agg #[.int .i64 x.kind, .string x.bytes]] W6 fun e w' => e = .returned (.tuple #[.agg #[.int .u8 (b0.toNat : Int), .int .u8 (b1.toNat : Int), .int .u8 (b2.toNat : Int), .int .u8 (b3.toNat : Int), .int .u8 (b4.toNat : Int), .int .u8 (b5.toNat : Int), .int .u8 (b6.toNat : Int), .int .u8 (b7.toNat : Int)], .int .i64 0]) ∧ Below W6.heap.size W6 w' := hid
      have HNOT : Hid ([b0, b1, b2, b3, b4, b5, b6, b7] ∉ (pl (bs.take j)).map Pk.bid) := hnot
      have HLAST : Hid ([b0, b1, b2, b3, b4, b5, b6, b7] = [d0', d1', d2', d3', d4', d5', d6', d7'] ↔ j = N - 1) := hlast
      have HTOLD : Hid (∀ t ∈ (Wk.needs x.p).1, t ∈ (pl (bs.take j)).map Pk.bid) := htold
      have HTK : Hid (pl (bs.take (j + 1)) = pl (bs.take j) ++ [x.p]) := htk1
      have HND0 : Hid ((Wk.needs x.p).2 = 0) := hnd0
      have HXB : Hid (x.bytes.size ≤ 9223372036854775807) := hxo.2
      clear hid hie hL hbe hnot hlast htold htk htk1 hnd0 hxp hxo hx hb6 hbw
      go_upto_region 10 with fail
      rw [← hW6]
      obtain ⟨p3, hp3⟩ : ∃ p3, p3 = wr.heap.size := ⟨_, rfl⟩
      rw [← hp3] at e0 e1 hs6 ⊢
      clear hW6 hp3 c0 c1 hbk
      go_wp2_with fail
      refine hid'.mono ?_
      rintro e w7 ⟨rfl, b7x⟩
      have HB67 : Hid (Below W6.heap.size W6 w7) := b7x
      obtain ⟨W8, hW8⟩ : ∃ W8, W8 = w7.alloc (.cells #[.int .u8 (b0.toNat : Int), .int .u8 (b1.toNat : Int), .int .u8 (b2.toNat : Int), .int .u8 (b3.toNat : Int), .int .u8 (b4.toNat : Int), .int .u8 (b5.toNat : Int), .int .u8 (b6.toNat : Int), .int .u8 (b7.toNat : Int)] 29) := ⟨_, rfl⟩
      have HB78 : Hid (Below w7.heap.size w7 W8) := by rw [hW8]; exact (Below.refl _ w7).alloc (Nat.le_refl _) _
      have HI8 : Hid (I8 W8 w7.heap.size [b0, b1, b2, b3, b4, b5, b6, b7]) := by rw [hW8]; exact I8.laid (heap_alloc_new w7 _)
      have HB68 : Hid (Below W6.heap.size W6 W8) := HB67.out.trans (HB78.out.mono HB67.out.size)
      have HV8 : Hid (Below wr.heap.size wr W8) := HB6.out.trans (HB68.out.mono HB6.out.size)
      have f0 := (HB68.out.cell (p := ⟨p3, 0, none⟩) hs6).trans e0
      have f1 := (HB68.out.cell (p := ⟨p3, 1, none⟩) hs6).trans e1
      have hnd := needs_any x W8 HXB.out fun W hW => HT.out.below (HBR.out.trans ((HV8.out.trans (hW.mono HV8.out.size)).mono HBR.out.size))
      clear hid' b7x e0 e1 hs6
      go_upto_region 11 with fail
      rw [← hW8]
      obtain ⟨p4, hp4⟩ : ∃ p4, p4 = w7.heap.size := ⟨_, rfl⟩
      have HP4G : Hid (wr.heap.size ≤ p4) := by show _ ≤ _; rw [hp4]; exact Nat.le_trans HB6.out.size HB67.out.size
      rw [← hp4] at HI8 ⊢
      clear hW8 hp4
      go_wp2_with fail
      refine hnd.mono ?_
      rintro e w9 ⟨v9, rfl, o9, q8, ql, b9⟩
      obtain ⟨NS, hNS⟩ : ∃ NS, NS = (Wk.needs x.p).1 := ⟨_, rfl⟩
      have HNS : Hid (NS = (Wk.needs x.p).1) := hNS
      rw [← hNS] at o9 q8 ql
      rw [HND0.out]
      have HQ8 : Hid ((∀ t ∈ NS, t.length = 8) ∧ NS.length ≤ 20000) := ⟨q8, ql⟩
      have HTD : Hid (∀ t ∈ NS, t ∈ (pl (bs.take j)).map Pk.bid) := by show ∀ t ∈ NS, _; rw [hNS]; exact HTOLD.out
      have HXN : Hid (Rx 8 idC w9 v9 NS) := rx_own o9 rfl q8
      obtain ⟨a9, c9, rfl, _, _⟩ := HXN.out.slice
      obtain ⟨M, hM⟩ : ∃ M, M = NS.length := ⟨_, rfl⟩
      have HM : Hid (M = NS.length) := hM
      rw [← hM] at HXN ⊢
      have HB89 : Hid (Below W8.heap.size W8 w9) := b9
      have HB9 : Hid (Below wr.heap.size wr w9) := HV8.out.trans (b9.mono HV8.out.size)
      have HI9 : Hid (I8 w9 p4 [b0, b1, b2, b3, b4, b5, b6, b7]) := HI8.out.below b9 HI8.out.lt
      have HIR9 : Hid (I8 w9 p2 [d0', d1', d2', d3', d4', d5', d6', d7']) := HIR.out.below HB9.out HIR.out.lt
      have HK19 : Hid (Mk w9 m1 n1 ((pl (bs.take j)).map Pk.bid)) := HK1.out.below HB9.out
      have HK29 : Hid (Mk w9 (m1 + 1) n2 K) := HK2.out.below HB9.out
      have hlk1 := HK19.out.look under_count (zero_count _) (x := [b0, b1, b2, b3, b4, b5, b6, b7]) rfl
      rw [if_neg HNOT.out] at hlk1
      have hlk1' : (Instr.lookup 50 (.map (some m1)) (.agg #[.int .u8 (b0.toNat : Int), .int .u8 (b1.toNat : Int), .int .u8 (b2.toNat : Int), .int .u8 (b3.toNat : Int), .int .u8 (b4.toNat : Int), .int .u8 (b5.toNat : Int), .int .u8 (b6.toNat : Int), .int .u8 (b7.toNat : Int)]) false).run Tryz.prog w9 = .ok (.int .i64 0) w9 := hlk1
      obtain ⟨y0, y1, y2, y3, y4, y5, y6, y7⟩ := HI9.out.cells
      obtain ⟨z0, z1, z2, z3, z4, z5, z6, z7⟩ := HIR9.out.cells
      have hcmp : ∀ W, (Op.equalIn 10000 29 (.agg #[.int .u8 (b0.toNat : Int), .int .u8 (b1.toNat : Int), .int .u8 (b2.toNat : Int), .int .u8 (b3.toNat : Int), .int .u8 (b4.toNat : Int), .int .u8 (b5.toNat : Int), .int .u8 (b6.toNat : Int), .int .u8 (b7.toNat : Int)]) (.agg #[.int .u8 (d0'.toNat : Int), .int .u8 (d1'.toNat : Int), .int .u8 (d2'.toNat : Int), .int .u8 (d3'.toNat : Int), .int .u8 (d4'.toNat : Int), .int .u8 (d5'.toNat : Int), .int .u8 (d6'.toNat : Int), .int .u8 (d7'.toNat : Int)])).run Tryz.prog W = .ok ([b0, b1, b2, b3, b4, b5, b6, b7] == [d0', d1', d2', d3', d4', d5', d6', d7']) W := fun W => id_eq W [b0, b1, b2, b3, b4, b5, b6, b7] [d0', d1', d2', d3', d4', d5', d6', d7'] rfl rfl
      have hwr : IntKind.i64.wrap ((N : Int) - 1) = (N : Int) - 1 := by
        have := HNN.out.2.2
        simp only [IntKind.wrap, IntKind.bits, IntKind.signed]
        simp
        omega
      have heqj : (((j : Int)) == (N : Int) - 1) = ([b0, b1, b2, b3, b4, b5, b6, b7] == [d0', d1', d2', d3', d4', d5', d6', d7']) := by
        rw [Bool.eq_iff_iff, beq_iff_eq, beq_iff_eq, HLAST.out]
        omega
      generalize ([b0, b1, b2, b3, b4, b5, b6, b7] == [d0', d1', d2', d3', d4', d5', d6', d7']) = SB at *
      have hbb : (SB != SB) = false := by simp
      have hq4 : p4 < w9.heap.size := HI9.out.lt
      have hm4 : m1 + 1 < wr.heap.size := HK2.out.lt
      have HNB : Hid (∀ ad n c, Value.slice a9 M c9 = .slice (some ad) n c → ad.block ≠ m1 + 1) := fun ad n c e => by
        rw [hM] at e
        cases e
        have h1 := (o9.lt ad.block rfl).1
        have h2 := HV8.out.size
        omega
      have HP4 : Hid (p4 ≠ m1 + 1 ∧ p2 ≠ m1 + 1 ∧ m1 ≠ m1 + 1) := by
        have h1 := HI8.out.lt
        refine ⟨?_, by have := HL.out.2; omega, by omega⟩
        have h2 := HP4G.out
        omega
      have HB49 : Hid (Below W4.heap.size W4 w9) := HBW.out.trans (HB9.out.mono HBW.out.size)
      clear hnd o9 q8 ql b9 hNS hM hlk1 f0 f1 hm4
      go_upto_region 14 with fail
      clear y0 y1 y2 y3 y4 y5 y6 y7 z0 z1 z2 z3 z4 z5 z6 z7 hcmp hwr heqj hbb hlk1'
      go_upto_region 15 with fail
      go_loopw [76] (fun i wx => ∃ (q : Nat) (Kq : List (List UInt8)), q ≤ M ∧ i = .int .i64 q ∧ Hid ((∃ n, n ≤ n2 + q ∧ Mk wx (m1 + 1) n Kq) ∧ Kq.Nodup ∧ (∀ t, t ∈ Kq ↔ t ∈ K ∨ t ∈ NS.take q) ∧ Kept (fun b => b ≠ m1 + 1) w9 wx)) (fun i _ => M - (intOf i).toNat)
      case atStart => exact ⟨0, K, by omega, rfl, ⟨n2, by omega, HK29.out⟩, HKM.out.1, fun t => by simp, Kept.refl _ _⟩
      case round =>
        obtain ⟨q, Kq, hq, rfl, HJ⟩ := hrel
        obtain ⟨⟨nq, hnq, hkq⟩, hndq, hmemq, hkp⟩ := HJ.out
        have HKQ : Hid (Mk wr (m1 + 1) nq Kq) := hkq
        have HKN : Hid (nq ≤ n2 + q) := hnq
        have HKQM : Hid (Kq.Nodup ∧ ∀ t, t ∈ Kq ↔ t ∈ K ∨ t ∈ NS.take q) := ⟨hndq, hmemq⟩
        have HKP : Hid (Kept (fun b => b ≠ m1 + 1) w9 wr) := hkp
        clear HJ hkq hndq hmemq hnq
        by_cases hlt2 : q < M
        · have hql : q < NS.length := by rw [← HM.out]; exact hlt2
          obtain ⟨y, hy⟩ : ∃ y, NS[q]? = some y := ⟨_, List.getElem?_eq_getElem hql⟩
          have HY : Hid (NS[q]? = some y) := hy
          obtain ⟨g0, g1, g2, g3, g4, g5, g6, g7, rfl⟩ := eight _ (HQ8.out.1 y (List.mem_of_getElem? hy))
          obtain ⟨nk, no, rfl, hnk, hnc⟩ := (HXN.out.kept hkp HNB.out).get q _ hy
          have x0 : wr.cell? ⟨nk, no + q * 8, none⟩ = some (.int .u8 (g0.toNat : Int)) := hnc 0 _ rfl
          have x1 : wr.cell? ⟨nk, no + q * 8 + 1, none⟩ = some (.int .u8 (g1.toNat : Int)) := hnc 1 _ rfl
          have x2 : wr.cell? ⟨nk, no + q * 8 + 2, none⟩ = some (.int .u8 (g2.toNat : Int)) := hnc 2 _ rfl
          have x3 : wr.cell? ⟨nk, no + q * 8 + 3, none⟩ = some (.int .u8 (g3.toNat : Int)) := hnc 3 _ rfl
          have x4 : wr.cell? ⟨nk, no + q * 8 + 4, none⟩ = some (.int .u8 (g4.toNat : Int)) := hnc 4 _ rfl
          have x5 : wr.cell? ⟨nk, no + q * 8 + 5, none⟩ = some (.int .u8 (g5.toNat : Int)) := hnc 5 _ rfl
          have x6 : wr.cell? ⟨nk, no + q * 8 + 6, none⟩ = some (.int .u8 (g6.toNat : Int)) := hnc 6 _ rfl
          have x7 : wr.cell? ⟨nk, no + q * 8 + 7, none⟩ = some (.int .u8 (g7.toNat : Int)) := hnc 7 _ rfl
          obtain ⟨W10, hW10⟩ : ∃ W10, W10 = wr.alloc (.cells #[.int .u8 (g0.toNat : Int), .int .u8 (g1.toNat : Int), .int .u8 (g2.toNat : Int), .int .u8 (g3.toNat : Int), .int .u8 (g4.toNat : Int), .int .u8 (g5.toNat : Int), .int .u8 (g6.toNat : Int), .int .u8 (g7.toNat : Int)] 29) := ⟨_, rfl⟩
          have hbx : Below wr.heap.size wr W10 := by rw [hW10]; exact (Below.refl _ wr).alloc (Nat.le_refl _) _
          have HBX : Hid (Below wr.heap.size wr W10) := hbx
          have HI10 : Hid (I8 W10 wr.heap.size [g0, g1, g2, g3, g4, g5, g6, g7]) := by rw [hW10]; exact I8.laid (heap_alloc_new wr _)
          have HK110 : Hid (Mk W10 m1 n1 ((pl (bs.take j)).map Pk.bid)) := (HK19.out.kept hkp HP4.out.2.2).below hbx
          have hl1 := HK110.out.look under_count (zero_count _) (x := [g0, g1, g2, g3, g4, g5, g6, g7]) rfl
          rw [if_pos (HTD.out _ (List.mem_of_getElem? hy))] at hl1
          have hl1' : (Instr.lookup 50 (.map (some m1)) (.agg #[.int .u8 (g0.toNat : Int), .int .u8 (g1.toNat : Int), .int .u8 (g2.toNat : Int), .int .u8 (g3.toNat : Int), .int .u8 (g4.toNat : Int), .int .u8 (g5.toNat : Int), .int .u8 (g6.toNat : Int), .int .u8 (g7.toNat : Int)]) false).run Tryz.prog W10 = .ok (.int .i64 1) W10 := hl1
          obtain ⟨w11, hput, hmk, hgr⟩ := (HKQ.out.below hbx).set under_count (x := [g0, g1, g2, g3, g4, g5, g6, g7]) rfl (by have := HKN.out; have := HNN.out; have := HQ8.out.2; have := HM.out; omega)
          have hput' : (Instr.mapUpdate 50 (.map (some (m1 + 1))) (.agg #[.int .u8 (g0.toNat : Int), .int .u8 (g1.toNat : Int), .int .u8 (g2.toNat : Int), .int .u8 (g3.toNat : Int), .int .u8 (g4.toNat : Int), .int .u8 (g5.toNat : Int), .int .u8 (g6.toNat : Int), .int .u8 (g7.toNat : Int)]) (.int .i64 1)).run Tryz.prog W10 = .ok () w11 := hput
          have HMK : Hid (Mk w11 (m1 + 1) (nq + 1) (if [g0, g1, g2, g3, g4, g5, g6, g7] ∈ Kq then Kq else Kq ++ [[g0, g1, g2, g3, g4, g5, g6, g7]])) := hmk
          have HKP11 : Hid (Kept (fun b => b ≠ m1 + 1) w9 w11) := (hkp.trans (Kept.of_below hbx)).trans (Kept.grown (p := fun b => b ≠ m1 + 1) (Kept.refl _ _) hgr (fun r hr hp => hp (Option.some.inj hr).symm))
          obtain ⟨y0, y1, y2, y3, y4, y5, y6, y7⟩ := HI10.out.cells
          clear hput hmk hgr hl1 hbx hnc hnk hkp hy
          go_upto_region 17 with fail
          rw [← hW10]
          obtain ⟨p5, hp5⟩ : ∃ p5, p5 = wr.heap.size := ⟨_, rfl⟩
          rw [← hp5] at y0 y1 y2 y3 y4 y5 y6 y7 ⊢
          clear hW10 hp5 x0 x1 x2 x3 x4 x5 x6 x7
          go_wp2_with fail
          go_roundw
          case rel =>
            refine ⟨q + 1, _, by omega, by go_num, ⟨nq + 1, by have := HKN.out; omega, HMK.out⟩, ?_, fun t => ?_, HKP11.out⟩
            · split
              · exact HKQM.out.1
              · rename_i hi
                exact List.nodup_append.2 ⟨HKQM.out.1, by simp, fun a ha c hc e => by rw [List.mem_singleton.1 hc] at e; exact hi (e ▸ ha)⟩
            · rw [List.take_add_one, HY.out]
              have hm : t ∈ (if [g0, g1, g2, g3, g4, g5, g6, g7] ∈ Kq then Kq else Kq ++ [[g0, g1, g2, g3, g4, g5, g6, g7]]) ↔ t ∈ Kq ∨ t = [g0, g1, g2, g3, g4, g5, g6, g7] := by
                split
                · rename_i hi
                  exact ⟨.inl, fun z => z.elim id fun e => by rw [e]; exact hi⟩
                · rw [List.mem_append, List.mem_singleton]
              rw [hm, HKQM.out.2, List.mem_append, Option.toList_some, List.mem_singleton, or_assoc]
          case measure => simp only [intOf]; omega
        · have HK1b : Hid (Mk wr m1 n1 ((pl (bs.take j)).map Pk.bid)) := HK19.out.kept hkp HP4.out.2.2
          have HI4b : Hid (I8 wr p4 [b0, b1, b2, b3, b4, b5, b6, b7]) := HI9.out.kept hkp HP4.out.1
          obtain ⟨w12, hput, hmk, hgr⟩ := HK1b.out.set under_count (x := [b0, b1, b2, b3, b4, b5, b6, b7]) rfl (by have := HNN.out; omega)
          rw [if_neg HNOT.out] at hmk
          have hput' : (Instr.mapUpdate 50 (.map (some m1)) (.agg #[.int .u8 (b0.toNat : Int), .int .u8 (b1.toNat : Int), .int .u8 (b2.toNat : Int), .int .u8 (b3.toNat : Int), .int .u8 (b4.toNat : Int), .int .u8 (b5.toNat : Int), .int .u8 (b6.toNat : Int), .int .u8 (b7.toNat : Int)]) (.int .i64 1)).run Tryz.prog wr = .ok () w12 := hput
          have HMK : Hid (Mk w12 m1 (n1 + 1) ((pl (bs.take (j + 1))).map Pk.bid)) := by
            show Mk _ _ _ _
            rw [HTK.out, List.map_append, List.map_cons, List.map_nil, HL8.out]
            exact hmk
          have hkp2 : Kept (fun b => b ≠ m1) wr w12 := Kept.grown (p := fun b => b ≠ m1) (Kept.refl _ _) hgr (fun r hr hp => hp (Option.some.inj hr).symm)
          have HMQ : Hid (Mk w12 (m1 + 1) nq Kq) := HKQ.out.kept hkp2 (by show m1 + 1 ≠ m1; omega)
          have HB12 : Hid (Below W4.heap.size W4 w12) := by
            have h1 : Below W4.heap.size w9 wr := hkp.below HB49.out.size fun j hj => by show j ≠ m1 + 1; have := Hm1.out; omega
            have h2 : Below W4.heap.size wr w12 := hkp2.below (Nat.le_trans HB49.out.size h1.size) fun j hj => by show j ≠ m1; have := Hm1.out; omega
            exact (HB49.out.trans h1).trans h2
          have hqM : NS.take q = NS := List.take_of_length_le (by rw [← HM.out]; omega)
          have HFin : Hid (∀ t, t ∈ Kq ↔ ∃ b ∈ pl (bs.take (j + 1)), t ∈ (Wk.needs b).1) := fun t => by
            rw [HKQM.out.2, hqM, HKM.out.2, HTK.out]
            constructor
            · rintro (⟨b, hb, ht⟩ | ht)
              · exact ⟨b, List.mem_append_left _ hb, ht⟩
              · exact ⟨x.p, by simp, by rw [← HNS.out]; exact ht⟩
            · rintro ⟨b, hb, ht⟩
              rcases List.mem_append.1 hb with k | k
              · exact .inl ⟨b, k, ht⟩
              · rw [List.mem_singleton.1 k, ← HNS.out] at ht
                exact .inr ht
          obtain ⟨y0, y1, y2, y3, y4, y5, y6, y7⟩ := HI4b.out.cells
          have hqM2 : q = M := by omega
          subst hqM2
          clear hput hmk hgr hkp2 hkp hqM
          go_wp2_with fail
          go_roundw
          case rel => exact ⟨j + 1, Kq, by omega, by go_num, ⟨n1 + 1, by have := HNN.out; omega, HMK.out⟩, ⟨nq, by have := HNN.out; have := HKN.out; have := HQ8.out.2; have := HM.out; omega, HMQ.out⟩, HKQM.out.1, HFin.out, HB12.out⟩
          case measure => simp only [intOf]; omega
    · have hjN : bs.take j = bs := List.take_of_length_le (by rw [← HN.out]; omega)
      have hfew := HON.out.few (K := K) HKM.out.1 (fun t => by rw [HKM.out.2, hjN])
      rw [pl_length, ← HN.out] at hfew
      have hlen := HK2.out.count under_count 3
      have hlk := HK2.out.look under_count (zero_count _) (x := [d0', d1', d2', d3', d4', d5', d6', d7']) rfl
      rw [if_neg hfew.2] at hlk
      have hlk' : (Instr.lookup 50 (.map (some (m1 + 1))) (.agg #[.int .u8 (d0'.toNat : Int), .int .u8 (d1'.toNat : Int), .int .u8 (d2'.toNat : Int), .int .u8 (d3'.toNat : Int), .int .u8 (d4'.toNat : Int), .int .u8 (d5'.toNat : Int), .int .u8 (d6'.toNat : Int), .int .u8 (d7'.toNat : Int)]) false).run Tryz.prog wr = .ok (.int .i64 0) wr := hlk
      have hwr : IntKind.i64.wrap ((N : Int) - 1) = (N : Int) - 1 := by
        have := HNN.out.2.2
        simp only [IntKind.wrap, IntKind.bits, IntKind.signed]
        simp
        omega
      have hKL : (((K.length : Nat) : Int) == (N : Int) - 1) = true := by
        rw [beq_iff_eq, hfew.1]; omega
      generalize K.length = KL at *
      obtain ⟨z0, z1, z2, z3, z4, z5, z6, z7⟩ := HIR.out.cells
      clear hjN hfew hlk hbw
      go_wp2_with fail
      go_ret
      exact ⟨rfl, HBR.out⟩
end Go.Proofs.YtimdioacmojkeaaGreatDoor
