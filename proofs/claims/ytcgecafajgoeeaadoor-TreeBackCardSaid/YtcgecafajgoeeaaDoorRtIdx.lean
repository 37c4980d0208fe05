/-
  slices.IndexFunc over nodes, by a name.
-/
import Derived.Test.YtcgecafajgoeeaaDoorRtNodes
namespace Go.Proofs.YtcgecafajgoeeaaDoor
open Go.RowKit
set_option maxRecDepth 4000

/-- where the first node of that name stands, or -1 -/
def ixOf (l : List Td.Nd) (s : List UInt8) : Int := match l.findIdx? (fun n => n.name == s) with
  | none => -1
  | some k => k
theorem ixOf_le (l : List Td.Nd) (s : List UInt8) {n : Nat} (h : l.length ≤ n) : ixOf l s ≤ n := by
  unfold ixOf
  cases hk : l.findIdx? fun n => n.name == s with
  | none => show (-1 : Int) ≤ n; omega
  | some k =>
    have := (List.findIdx?_eq_some_iff_getElem.1 hk).1
    show (k : Int) ≤ n
    omega
theorem findIdx_none {l : List Td.Nd} {s : List UInt8} (h : ∀ n ∈ l, (n.name == s) = false) : ixOf l s = -1 := by
  unfold ixOf
  rw [List.findIdx?_eq_none_iff.2 h]
theorem findIdx_at {l : List Td.Nd} {s : List UInt8} {k : Nat} (hk : k < l.length) (h : ∀ j (hj : j < k), (l[j].name == s) = false) (hs : (l[k].name == s) = true) : ixOf l s = k := by
  unfold ixOf
  rw [List.findIdx?_eq_some_iff_getElem.2 ⟨hk, hs, fun j hj => by rw [h j hj]; simp⟩]

set_option maxHeartbeats 1000000 in
set_option maxRecDepth 10000 in
theorem says1_any (n : Nod) (v : Value) (b : Nat) (t : ByteArray) (w : World) (hv : ∃ a m c, v = .slice a m c) (hb : w.cell? ⟨b, 0, none⟩ = some (.string t)) :
    Calls Tryd.prog 12 #[ndV n v, .pointer (some ⟨b, 0, none⟩)] w fun e w' => e = .returned (.bool (n.name.toList == t.toList)) ∧ Below w.heap.size w w' := by
  obtain ⟨a, m, c, rfl⟩ := hv
  obtain ⟨W1, hW1⟩ : ∃ W1, W1 = w.alloc (.cells (ndC n (.slice a m c)).toArray 32) := ⟨_, rfl⟩
  have HB1 : Hid (Below w.heap.size w W1) := by rw [hW1]; exact (Below.refl _ w).alloc (Nat.le_refl _) _
  have hM1 : W1.heap[w.heap.size]? = some (.cells (ndC n (.slice a m c)).toArray 32 (0, 0)) := by rw [hW1]; exact heap_alloc_new w _
  have hb1 : W1.cell? ⟨b, 0, none⟩ = some (.string t) := (Below.cell HB1.out (p := ⟨b, 0, none⟩) (World.block_lt_of_cell? w _ hb)).trans hb
  obtain ⟨name, kind, mode, time, size, parts, link⟩ := n
  obtain ⟨m0, _⟩ := seven_at hM1
  clear hM1
  go_enter Tryd.func12, Tryd.ntmps12
  go_upto_region 1 with fail
  rw [← hW1]
  clear hW1 hb
  go_wp2_with fail
  go_ret
  exact ⟨rfl, HB1.out⟩

set_option maxHeartbeats 2000000 in
set_option maxRecDepth 10000 in
theorem index_nodes (v : Value) (l : List Nod) (b : Nat) (t : ByteArray) (w : World) (h : Nds w v l) (hl : l.length ≤ 9223372036854775807) (hb : w.cell? ⟨b, 0, none⟩ = some (.string t)) :
    Calls Tryd.prog 11 #[v, .func (.func 12) #[] #[.pointer (some ⟨b, 0, none⟩)]] w fun e w' => e = .returned (.int .i64 (ixOf (nds l) t.data.toList)) ∧ Below w.heap.size w w' := by
  obtain ⟨a, c, rfl⟩ := h.slice
  have HX : Hid (Nds w (.slice a l.length c) l) := h
  have HBt : Hid (w.cell? ⟨b, 0, none⟩ = some (.string t)) := hb
  obtain ⟨R, hR⟩ : ∃ R, ixOf (nds l) t.data.toList = R := ⟨_, rfl⟩
  have HR : Hid (ixOf (nds l) t.data.toList = R) := hR
  rw [hR]
  obtain ⟨N, hN⟩ : ∃ N, N = l.length := ⟨_, rfl⟩
  have HN : Hid (N = l.length) := hN
  rw [← hN] at HX hl ⊢
  clear h hN hR hb
  go_enter Tryd.func11, Tryd.ntmps11
  go_wp2_with fail
  go_loopw [8] (fun i wr => ∃ k : Nat, k ≤ N ∧ i = .int .i64 k ∧ Hid (∀ j (hj : j < k) (hl : j < l.length), (l[j].name.data.toList == t.data.toList) = false) ∧ Hid (Below w.heap.size w wr)) (fun i _ => N - (intOf i).toNat)
  case atStart => exact ⟨0, by omega, rfl, fun j hj _ => by omega, Below.refl _ _⟩
  case round =>
    obtain ⟨k, hk, rfl, HF, HB⟩ := hrel
    by_cases hlt : k < N
    · have hkl : k < l.length := by rw [← HN.out]; exact hlt
      obtain ⟨bk, o, cs, rfl, hbk, hcl, ⟨v, rfl, hPs, hok⟩, hcell⟩ := (HX.out.below HB.out).get k l[k] (List.getElem?_eq_getElem hkl)
      obtain ⟨av, cv, rfl, _⟩ := hPs.slice
      have hs1 := says1_any l[k] (.slice av l[k].parts.length cv) b t wr ⟨_, _, _, rfl⟩ ((Below.cell HB.out (p := ⟨b, 0, none⟩) (World.block_lt_of_cell? w _ HBt.out)).trans HBt.out)
      have c0 : wr.cell? ⟨bk, o + k * 7, none⟩ = some (.string l[k].name) := hcell 0 _ rfl
      have c1 := hcell 1 _ rfl
      have c2 := hcell 2 _ rfl
      have c3 := hcell 3 _ rfl
      have c4 := hcell 4 _ rfl
      have c5 := hcell 5 _ rfl
      have c6 := hcell 6 _ rfl
      have HY : Hid ((l[k].name.toList == t.toList) = true → R = k) := fun q => by
        rw [Lib.toList_data, Lib.toList_data] at q
        rw [← HR.out]
        exact findIdx_at (by rw [nds_length]; exact hkl) (fun j hj => by
          have := HF.out j hj (by omega)
          simpa [nds, Nod.nd] using this) (by simpa [nds, Nod.nd] using q)
      have HNo : Hid ((l[k].name.toList == t.toList) = false → ∀ j (hj : j < k + 1) (hl : j < l.length), (l[j].name.data.toList == t.data.toList) = false) := fun q j hj hjl => by
        rw [Lib.toList_data, Lib.toList_data] at q
        rcases Nat.lt_or_ge j k with h1 | h1
        · exact HF.out j h1 hjl
        · obtain rfl : j = k := by omega
          exact q
      generalize l[k] = n at *
      generalize n.parts.length = np at *
      clear hcell hPs hok hcl HF
      obtain ⟨name, kind, mode, time, size, parts, link⟩ := n
      dsimp only at *
      go_wp2_with fail
      refine hs1.mono ?_
      rintro e w3 ⟨rfl, b3⟩
      have HB3 : Hid (Below w.heap.size w w3) := HB.out.trans (b3.mono HB.out.size)
      clear hs1 b3 c0 c1 c2 c3 c4 c5 c6
      cases hq : (name.toList == t.toList) with
      | true =>
        have HE := HY.out hq
        clear HY HNo
        go_wp2_with fail
        go_ret
        exact ⟨by rw [HE]; rfl, HB3.out⟩
      | false =>
        have HF2 : Hid (∀ j (hj : j < k + 1) (hl : j < l.length), (l[j].name.data.toList == t.data.toList) = false) := HNo.out hq
        clear HY HNo
        go_wp2_with fail
        go_roundw
        case measure => simp only [intOf]; omega
        case rel => exact ⟨k + 1, by omega, by go_num, HF2, HB3⟩
    · obtain rfl : k = N := by omega
      have HE : Hid (R = -1) := by
        show _ = _
        rw [← HR.out]
        refine findIdx_none fun n hn => ?_
        obtain ⟨m, hm, rfl⟩ := List.mem_map.1 hn
        obtain ⟨j, hj, rfl⟩ := List.getElem_of_mem hm
        exact HF.out j (by rw [HN.out]; exact hj) hj
      clear HF
      go_wp2_with fail
      go_ret
      exact ⟨by rw [HE.out]; rfl, HB.out⟩
end Go.Proofs.YtcgecafajgoeeaaDoor
