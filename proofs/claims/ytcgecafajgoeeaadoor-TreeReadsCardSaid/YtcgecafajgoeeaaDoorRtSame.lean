/-
  slices.Equal over IDs, lumref.SameNode, slices.EqualFunc and slices.IndexFunc over nodes.
-/
import Derived.Test.YtcgecafajgoeeaaDoorRtNodes
import Derived.Test.YtcgecafajgoeeaaDoorArrEq
namespace Go.Proofs.YtcgecafajgoeeaaDoor
open Go.RowKit
set_option maxRecDepth 4000

theorem oct8 {t : List UInt8} (h : t.length = 8) : ∃ b0 b1 b2 b3 b4 b5 b6 b7, t = [b0, b1, b2, b3, b4, b5, b6, b7] := by
  match t, h with
  | [b0, b1, b2, b3, b4, b5, b6, b7], _ => exact ⟨b0, b1, b2, b3, b4, b5, b6, b7, rfl⟩

set_option maxHeartbeats 4000000 in
set_option maxRecDepth 10000 in
theorem equal_ids (v1 v2 : Value) (l : List (List UInt8)) (w : World) (h1 : Rx 8 idC w v1 l) (h2 : Rx 8 idC w v2 l) (h8 : ∀ t ∈ l, t.length = 8) :
    Calls Tryd.prog 46 #[v1, v2] w fun e w' => e = .returned (.bool true) ∧ Below w.heap.size w w' := by
  obtain ⟨a1, c1, rfl, j1, j2⟩ := h1.slice
  obtain ⟨a2, c2, rfl, j3, j4⟩ := h2.slice
  have HX : Hid (Rx 8 idC w (.slice a1 l.length c1) l ∧ Rx 8 idC w (.slice a2 l.length c2) l ∧ ∀ t ∈ l, t.length = 8) := ⟨h1, h2, h8⟩
  obtain ⟨N, hN⟩ : ∃ N, N = l.length := ⟨_, rfl⟩
  have HN : Hid (N = l.length) := hN
  rw [← hN] at HX j1 ⊢
  clear j3 j4 h1 h2 h8 hN
  go_enter Tryd.func46, Tryd.ntmps46
  go_wp2_with fail
  go_loopw [13] (fun i wr => ∃ k : Nat, k ≤ N ∧ i = .int .i64 k ∧ Hid (Below w.heap.size w wr)) (fun i _ => N - (intOf i).toNat)
  case atStart => exact ⟨0, by omega, rfl, Below.refl _ _⟩
  case round =>
    obtain ⟨k, hk, rfl, HB⟩ := hrel
    by_cases hlt : k < N
    · have hkl : k < l.length := by rw [← HN.out]; exact hlt
      obtain ⟨bk, o, rfl, hbk, hc⟩ := (HX.out.1.below HB.out).get k l[k] (List.getElem?_eq_getElem hkl)
      obtain ⟨bk', o', rfl, hbk', hd⟩ := (HX.out.2.1.below HB.out).get k l[k] (List.getElem?_eq_getElem hkl)
      obtain ⟨b0, b1, b2, b3, b4, b5, b6, b7, ht8⟩ := oct8 (HX.out.2.2 l[k] (List.getElem_mem hkl))
      rw [ht8] at hc hd
      have x0 : wr.cell? ⟨bk, o + k * 8, none⟩ = some (.int .u8 (b0.toNat : Int)) := hc 0 _ rfl
      have x1 : wr.cell? ⟨bk, o + k * 8 + 1, none⟩ = some (.int .u8 (b1.toNat : Int)) := hc 1 _ rfl
      have x2 : wr.cell? ⟨bk, o + k * 8 + 2, none⟩ = some (.int .u8 (b2.toNat : Int)) := hc 2 _ rfl
      have x3 : wr.cell? ⟨bk, o + k * 8 + 3, none⟩ = some (.int .u8 (b3.toNat : Int)) := hc 3 _ rfl
      have x4 : wr.cell? ⟨bk, o + k * 8 + 4, none⟩ = some (.int .u8 (b4.toNat : Int)) := hc 4 _ rfl
      have x5 : wr.cell? ⟨bk, o + k * 8 + 5, none⟩ = some (.int .u8 (b5.toNat : Int)) := hc 5 _ rfl
      have x6 : wr.cell? ⟨bk, o + k * 8 + 6, none⟩ = some (.int .u8 (b6.toNat : Int)) := hc 6 _ rfl
      have x7 : wr.cell? ⟨bk, o + k * 8 + 7, none⟩ = some (.int .u8 (b7.toNat : Int)) := hc 7 _ rfl
      have y0 : wr.cell? ⟨bk', o' + k * 8, none⟩ = some (.int .u8 (b0.toNat : Int)) := hd 0 _ rfl
      have y1 : wr.cell? ⟨bk', o' + k * 8 + 1, none⟩ = some (.int .u8 (b1.toNat : Int)) := hd 1 _ rfl
      have y2 : wr.cell? ⟨bk', o' + k * 8 + 2, none⟩ = some (.int .u8 (b2.toNat : Int)) := hd 2 _ rfl
      have y3 : wr.cell? ⟨bk', o' + k * 8 + 3, none⟩ = some (.int .u8 (b3.toNat : Int)) := hd 3 _ rfl
      have y4 : wr.cell? ⟨bk', o' + k * 8 + 4, none⟩ = some (.int .u8 (b4.toNat : Int)) := hd 4 _ rfl
      have y5 : wr.cell? ⟨bk', o' + k * 8 + 5, none⟩ = some (.int .u8 (b5.toNat : Int)) := hd 5 _ rfl
      have y6 : wr.cell? ⟨bk', o' + k * 8 + 6, none⟩ = some (.int .u8 (b6.toNat : Int)) := hd 6 _ rfl
      have y7 : wr.cell? ⟨bk', o' + k * 8 + 7, none⟩ = some (.int .u8 (b7.toNat : Int)) := hd 7 _ rfl
      have heq : ∀ W, (Op.equalIn 10000 49 (.agg #[.int .u8 (b0.toNat : Int), .int .u8 (b1.toNat : Int), .int .u8 (b2.toNat : Int), .int .u8 (b3.toNat : Int), .int .u8 (b4.toNat : Int), .int .u8 (b5.toNat : Int), .int .u8 (b6.toNat : Int), .int .u8 (b7.toNat : Int)]) (.agg #[.int .u8 (b0.toNat : Int), .int .u8 (b1.toNat : Int), .int .u8 (b2.toNat : Int), .int .u8 (b3.toNat : Int), .int .u8 (b4.toNat : Int), .int .u8 (b5.toNat : Int), .int .u8 (b6.toNat : Int), .int .u8 (b7.toNat : Int)])).run Tryd.prog W = .ok true W := fun W => by
        have := id_eq W [b0, b1, b2, b3, b4, b5, b6, b7] [b0, b1, b2, b3, b4, b5, b6, b7] rfl rfl
        rw [beq_self_eq_true] at this
        exact this
      clear hc hd ht8 hbk hbk'
      go_wp2_with fail
      go_quiet (fail)
      clear x0 x1 x2 x3 x4 x5 x6 x7 y0 y1 y2 y3 y4 y5 y6 y7 heq
      go_wp2_with fail
      go_roundw
      case rel => exact ⟨k + 1, by omega, by go_num, below_drewN HB.out _⟩
      case measure => simp only [intOf]; omega
    · go_wp2_with fail
      go_ret
      exact ⟨rfl, HB.out⟩

set_option maxHeartbeats 4000000 in
set_option maxRecDepth 10000 in
theorem sameNode_any (n : Nod) (v1 v2 : Value) (w : World) (h1 : Rx 8 idC w v1 n.parts) (h2 : Rx 8 idC w v2 n.parts) (h8 : ∀ t ∈ n.parts, t.length = 8) :
    Calls Tryd.prog 29 #[ndV n v1, ndV n v2] w fun e w' => e = .returned (.bool true) ∧ Below w.heap.size w w' := by
  obtain ⟨W2, hW2⟩ : ∃ W2, W2 = (w.alloc (.cells (ndC n v1).toArray 32)).alloc (.cells (ndC n v2).toArray 32) := ⟨_, rfl⟩
  have HB2 : Hid (Below w.heap.size w W2) := by rw [hW2]; exact ((Below.refl _ w).alloc (Nat.le_refl _) _).alloc (by simp) _
  have hM2 : W2.heap[w.heap.size]? = some (.cells (ndC n v1).toArray 32 (0, 0)) ∧ W2.heap[w.heap.size + 1]? = some (.cells (ndC n v2).toArray 32 (0, 0)) := by
    rw [hW2]
    exact ⟨((Below.refl _ (w.alloc (.cells (ndC n v1).toArray 32))).alloc (Nat.le_refl _) _).block w.heap.size (by simp) ▸ heap_alloc_new w _, by
      have := heap_alloc_new (w.alloc (.cells (ndC n v1).toArray 32)) (.cells (ndC n v2).toArray 32)
      simpa using this⟩
  have heq := equal_ids v1 v2 n.parts W2 (h1.below HB2.out) (h2.below HB2.out) h8
  obtain ⟨a1, c1, rfl, _⟩ := h1.slice
  obtain ⟨a2, c2, rfl, _⟩ := h2.slice
  generalize n.parts.length = np at *
  clear h1 h2 h8
  obtain ⟨name, kind, mode, time, size, parts, link⟩ := n
  obtain ⟨m0, m1, m2, m3, m4, m5, m6⟩ := seven_at hM2.1
  obtain ⟨n0, n1, n2, n3, n4, n5, n6⟩ := seven_at hM2.2
  clear hM2
  go_enter Tryd.func29, Tryd.ntmps29
  go_upto_region 1 with fail
  rw [← hW2]
  obtain ⟨bk, hbk⟩ : ∃ bk, bk = w.heap.size := ⟨_, rfl⟩
  rw [← hbk] at m0 m1 m2 m3 m4 m5 m6 n0 n1 n2 n3 n4 n5 n6 ⊢
  clear hW2 hbk
  go_wp2_with fail
  refine heq.mono ?_
  rintro e w3 ⟨rfl, b3⟩
  have HB3 : Hid (Below w.heap.size w w3) := HB2.out.trans (b3.mono HB2.out.size)
  clear heq b3
  go_wp2_with fail
  go_ret
  exact ⟨rfl, HB3.out⟩

set_option maxHeartbeats 4000000 in
set_option maxRecDepth 10000 in
theorem equal_nodes (v1 v2 : Value) (l : List Nod) (w : World) (h1 : Nds w v1 l) (h2 : Nds w v2 l) (hl : l.length ≤ 9223372036854775807) :
    Calls Tryd.prog 28 #[v1, v2, .func (.func 29) #[] #[]] w fun e w' => e = .returned (.bool true) ∧ Below w.heap.size w w' := by
  obtain ⟨a1, c1, rfl⟩ := h1.slice
  obtain ⟨a2, c2, rfl⟩ := h2.slice
  have HX : Hid (Nds w (.slice a1 l.length c1) l ∧ Nds w (.slice a2 l.length c2) l) := ⟨h1, h2⟩
  obtain ⟨N, hN⟩ : ∃ N, N = l.length := ⟨_, rfl⟩
  have HN : Hid (N = l.length) := hN
  rw [← hN] at HX hl ⊢
  clear h1 h2 hN
  go_enter Tryd.func28, Tryd.ntmps28
  go_wp2_with fail
  go_loopw [17] (fun i wr => ∃ k : Nat, k ≤ N ∧ i = .int .i64 k ∧ Hid (Below w.heap.size w wr)) (fun i _ => N - (intOf i).toNat)
  case atStart => exact ⟨0, by omega, rfl, Below.refl _ _⟩
  case round =>
    obtain ⟨k, hk, rfl, HB⟩ := hrel
    by_cases hlt : k < N
    · have hkl : k < l.length := by rw [← HN.out]; exact hlt
      obtain ⟨bk, o, cs, rfl, hbk, hcl, ⟨v, rfl, hPs, hok⟩, hcell⟩ := (HX.out.1.below HB.out).get k l[k] (List.getElem?_eq_getElem hkl)
      obtain ⟨bk', o', cs', rfl, hbk', hcl', ⟨v', rfl, hPs', _⟩, hcell'⟩ := (HX.out.2.below HB.out).get k l[k] (List.getElem?_eq_getElem hkl)
      obtain ⟨W2, hW2⟩ : ∃ W2, W2 = (wr.alloc (.cells (ndC l[k] v).toArray 32)).alloc (.cells (ndC l[k] v').toArray 32) := ⟨_, rfl⟩
      have hB2 : Below wr.heap.size wr W2 := by rw [hW2]; exact ((Below.refl _ wr).alloc (Nat.le_refl _) _).alloc (by simp) _
      have HB2 : Hid (Below w.heap.size w W2) := HB.out.trans (hB2.mono HB.out.size)
      have hM2 : W2.heap[wr.heap.size]? = some (.cells (ndC l[k] v).toArray 32 (0, 0)) ∧ W2.heap[wr.heap.size + 1]? = some (.cells (ndC l[k] v').toArray 32 (0, 0)) := by
        rw [hW2]
        exact ⟨((Below.refl _ (wr.alloc (.cells (ndC l[k] v).toArray 32))).alloc (Nat.le_refl _) _).block wr.heap.size (by simp) ▸ heap_alloc_new wr _, by
          have := heap_alloc_new (wr.alloc (.cells (ndC l[k] v).toArray 32)) (.cells (ndC l[k] v').toArray 32)
          simpa using this⟩
      have hsn := sameNode_any l[k] v v' W2 (hPs.below hB2) (hPs'.below hB2) hok.ids
      obtain ⟨av, cv, rfl, _⟩ := hPs.slice
      obtain ⟨av', cv', rfl, _⟩ := hPs'.slice
      have c0 : wr.cell? ⟨bk, o + k * 7, none⟩ = some (.string l[k].name) := hcell 0 _ rfl
      have d0 : wr.cell? ⟨bk', o' + k * 7, none⟩ = some (.string l[k].name) := hcell' 0 _ rfl
      have c1 := hcell 1 _ rfl
      have c2 := hcell 2 _ rfl
      have c3 := hcell 3 _ rfl
      have c4 := hcell 4 _ rfl
      have c5 := hcell 5 _ rfl
      have c6 := hcell 6 _ rfl
      have d1 := hcell' 1 _ rfl
      have d2 := hcell' 2 _ rfl
      have d3 := hcell' 3 _ rfl
      have d4 := hcell' 4 _ rfl
      have d5 := hcell' 5 _ rfl
      have d6 := hcell' 6 _ rfl
      obtain ⟨m0, m1, m2, m3, m4, m5, m6⟩ := seven_at hM2.1
      obtain ⟨n0, n1, n2, n3, n4, n5, n6⟩ := seven_at hM2.2
      generalize l[k] = n at *
      generalize n.parts.length = np at *
      clear hcell hcell' hPs hPs' hok hcl hcl' hM2 hB2
      obtain ⟨name, kind, mode, time, size, parts, link⟩ := n
      dsimp only at *
      have hlt1 : bk' < wr.heap.size := hbk'
      have hne1 : ¬ wr.heap.size = bk' := by omega
      go_upto_region 7 with fail
      rw [← hW2]
      obtain ⟨b7, hb7⟩ : ∃ b7, b7 = wr.heap.size := ⟨_, rfl⟩
      rw [← hb7] at m0 m1 m2 m3 m4 m5 m6 n0 n1 n2 n3 n4 n5 n6 ⊢
      clear hW2 c0 c1 c2 c3 c4 c5 c6 d0 d1 d2 d3 d4 d5 d6 hb7 hne1 hlt1
      go_wp2_with fail
      refine hsn.mono ?_
      rintro e w3 ⟨rfl, b3⟩
      have HB3 : Hid (Below w.heap.size w w3) := HB2.out.trans (b3.mono HB2.out.size)
      clear hsn b3 m0 m1 m2 m3 m4 m5 m6 n0 n1 n2 n3 n4 n5 n6
      go_wp2_with fail
      go_roundw
      case rel => exact ⟨k + 1, by omega, by go_num, HB3⟩
      case measure => simp only [intOf]; omega
    · go_wp2_with fail
      go_ret
      exact ⟨rfl, HB.out⟩

theorem sameNodes_any (v1 v2 : Value) (l : List Nod) (w : World) (h1 : Nds w v1 l) (h2 : Nds w v2 l) (hl : l.length ≤ 9223372036854775807) :
    Calls Tryd.prog 16 #[v1, v2] w fun e w' => e = .returned (.bool true) ∧ Below w.heap.size w w' := by
  have he := equal_nodes v1 v2 l w h1 h2 hl
  go_enter Tryd.func16, Tryd.ntmps16
  go_wp2_with fail
  refine he.mono ?_
  rintro e w3 ⟨rfl, b3⟩
  have HB3 : Hid (Below w.heap.size w w3) := b3
  clear he b3
  go_wp2_with fail
  go_ret
  exact ⟨rfl, HB3.out⟩
end Go.Proofs.YtcgecafajgoeeaaDoor
