/-
  What DeltaOwn leans on, part 5.
-/
import Derived.Test.YthpcbbkpjggjbaaGreatDoorZDeltaOwn4
import Derived.Test.YthpcbbkpjggjbaaGreatDoorRows
import Derived.Lib.LaidU8T
import Derived.SliceStrings
import Derived.Test.YthpcbbkpjggjbaaGreatDoorCards
import Derived.Test.YthpcbbkpjggjbaaGreatDoorTie
import Derived.Carry
import Derived.ProofKit
import Derived.ShutString
import Derived.ChangeOld
import Derived.Laws.Cover2
import Derived.Deep.DeepHandedRow
import Derived.Shelf.Vars

namespace Go.Proofs.YthpcbbkpjggjbaaGreatDoor
open Go.RowKit
set_option maxRecDepth 4000
open Nn (Name)
namespace Wk
def reapP (l : List Pk.Bl) (root : Bs) : List It × Int := if (heapP l).2 ≠ 0 then ([], (heapP l).2) else reapDir (heapP l).1 9 root [] []
theorem gath_ok : ∀ (r acc L : List Pk.Bl), gath r acc = (L, 0) → (∀ b ∈ acc, b ∈ L) ∧ (∀ b ∈ r, b ∈ L) ∧ (∀ b ∈ L, b ∈ acc ∨ b ∈ r) ∧ (∀ b ∈ r, Pk.bErr b = 0) ∧ (Fine acc → Fine L)
  | [], acc, L, h => by
    rw [gath] at h
    cases h
    exact ⟨fun _ q => q, fun _ q => absurd q List.not_mem_nil, fun _ q => .inl q, fun _ q => absurd q List.not_mem_nil, fun q => q⟩
  | b :: r, acc, L, h => by
    rw [gath] at h
    split at h
    · rename_i q; exact absurd (congrArg Prod.snd h) q
    rename_i q
    rcases hi : into acc b with ⟨l1, id, e⟩
    rw [hi] at h q
    dsimp only at h q
    obtain rfl := Decidable.not_not.mp q
    obtain ⟨i1, i2, i3, i4, i5, i6⟩ := into_ok hi
    obtain ⟨g1, g2, g3, g4, g5⟩ := gath_ok r l1 L h
    refine ⟨fun x hx => g1 x (i4 x hx), fun x hx => ?_, fun x hx => ?_, fun x hx => ?_, fun q => g5 (i5 q)⟩
    · rcases List.mem_cons.1 hx with e | hx
      · rw [e]; exact g1 b i3
      · exact g2 x hx
    · rcases g3 x hx with q | q
      · rcases i6 with e | e
        · rw [e] at q; exact .inl q
        · rw [e] at q
          rcases List.mem_append.1 q with q | q
          · exact .inl q
          · rw [List.mem_singleton.1 q]; exact .inr List.mem_cons_self
      · exact .inr (List.mem_cons_of_mem _ q)
    · rcases List.mem_cons.1 hx with e | hx
      · rw [e]; exact i1
      · exact g4 x hx
end Wk
theorem bErr_small {b : Pk.Bl} (h : Pk.bErr b = 0) : b.2.length ≤ 4096 := by
  unfold Pk.bErr at h
  split at h
  · split at h
    · cases h
    · omega
  · cases h
theorem heap_small {l : List Pk.Bl} {bs : List Blb} (h : Wk.heapP l = (pl bs, 0)) : Sm bs := by
  unfold Wk.heapP at h
  split at h
  · exact absurd (congrArg Prod.snd h) (by simp)
  intro x hx
  obtain ⟨_, _, g3, g4, _⟩ := Wk.gath_ok l [] (pl bs) h
  have hm : x.p ∈ pl bs := List.mem_map_of_mem hx
  rcases g3 x.p hm with q | q
  · exact absurd q List.not_mem_nil
  · have := bErr_small (g4 x.p q)
    rw [Lib.size_eq]
    exact this
def RpOut (l : List Blb) (root : Wk.Bs) (w : World) (e : Ending) (w' : World) : Prop :=
  ∃ v, e = .returned (.tuple #[v, .int .i64 (Wk.reapP (pl l) root).2]) ∧ Below w.heap.size w w' ∧ ((Wk.reapP (pl l) root).2 ≠ 0 → v = .slice none 0 0) ∧
    ((Wk.reapP (pl l) root).2 = 0 → ∃ items, its items = (Wk.reapP (pl l) root).1 ∧ w'.ownsRow w.heap.size 27 5 v items.length (rowR imC items) ∧ items.length ≤ 100)
set_option maxHeartbeats 4000000 in
set_option maxRecDepth 10000 in
theorem reap_any (v : Value) (l : List Blb) (root : Wk.Bs) (w : World) (h : Bx w v l) (hok : BOk l) (hl : l.length ≤ 140737488351232) (hr : root.length = 8) (hT : Tabs w) :
    Calls Tryz.prog 21 #[v, idV root] w (RpOut l root w) := by
  unfold RpOut
  obtain ⟨R, hR⟩ : ∃ R, R = Wk.reapP (pl l) root := ⟨_, rfl⟩
  rw [← hR]
  obtain ⟨b0, b1, b2, b3, b4, b5, b6, b7, rfl⟩ := eight root hr
  have eV : idV [b0, b1, b2, b3, b4, b5, b6, b7] = .agg #[.int .u8 (b0.toNat : Int), .int .u8 (b1.toNat : Int), .int .u8 (b2.toNat : Int), .int .u8 (b3.toNat : Int), .int .u8 (b4.toNat : Int), .int .u8 (b5.toNat : Int), .int .u8 (b6.toNat : Int), .int .u8 (b7.toNat : Int)] := rfl
  rw [eV]
  obtain ⟨W1, hW1⟩ : ∃ W1, W1 = w.alloc (.cells #[.int .u8 (b0.toNat : Int), .int .u8 (b1.toNat : Int), .int .u8 (b2.toNat : Int), .int .u8 (b3.toNat : Int), .int .u8 (b4.toNat : Int), .int .u8 (b5.toNat : Int), .int .u8 (b6.toNat : Int), .int .u8 (b7.toNat : Int)] 39) := ⟨_, rfl⟩
  have hB1 : Below w.heap.size w W1 := by rw [hW1]; exact (Below.refl _ w).alloc (Nat.le_refl _) _
  have HB1 : Hid (Below w.heap.size w W1) := hB1
  have HI1 : Hid (W1.heap[w.heap.size]? = some (.cells #[.int .u8 (b0.toNat : Int), .int .u8 (b1.toNat : Int), .int .u8 (b2.toNat : Int), .int .u8 (b3.toNat : Int), .int .u8 (b4.toNat : Int), .int .u8 (b5.toNat : Int), .int .u8 (b6.toNat : Int), .int .u8 (b7.toNat : Int)] 39 (0, 0))) := by rw [hW1]; exact heap_alloc_new w _
  have HT : Hid (Tabs w) := hT
  obtain ⟨H, hH⟩ : ∃ H, H = Wk.heapP (pl l) := ⟨_, rfl⟩
  have HH : Hid (H = Wk.heapP (pl l)) := hH
  have HR : Hid (R = if H.2 ≠ 0 then ([], H.2) else Wk.reapDir H.1 9 [b0, b1, b2, b3, b4, b5, b6, b7] [] []) := by show _ = _; rw [hR, hH]; rfl
  have hheap := heapOf_any v l W1 (h.below hB1) hok hl H hH
  obtain ⟨va, vc, rfl, _, _⟩ := h.slice
  generalize l.length = LN at *
  clear hR h hok hT hH hB1 eV hr
  go_enter Tryz.func21, Tryz.ntmps21
  go_upto_region 1 with fail
  rw [← hW1]
  clear hW1
  go_wp2_with fail
  refine hheap.mono ?_
  rintro e w2 ⟨hv, rfl, b2', hv1, hv2⟩
  have HB2 : Hid (Below w.heap.size w w2) := HB1.out.trans (b2'.mono HB1.out.size)
  by_cases hE : H.2 = 0
  case neg =>
    have HRe : Hid (R = ([], H.2)) := by show _ = _; rw [HR.out, if_pos hE]
    have hne : (H.2 != 0) = true := by rw [bne_iff_ne]; exact hE
    have HE : Hid (H.2 ≠ 0) := hE
    obtain rfl := hv1 hE
    generalize H.2 = ER at *
    clear HR hE hheap hv1 hv2 HH
    go_wp2_with fail
    go_ret2
    exact ⟨_, by rw [HRe.out]; rfl, HB2.out, fun _ => rfl, fun e => by rw [HRe.out] at e; exact absurd e HE.out⟩
  obtain ⟨m, n, bs, rfl, hn, hbl, hpl, hmw, hmp⟩ := hv2 hE
  have hHe : H = (pl bs, 0) := Prod.ext hpl.symm hE
  have hsm : Sm bs := heap_small (by rw [← HH.out]; exact hHe)
  have HR2 : Hid (R = Wk.reapDir (pl bs) 9 [b0, b1, b2, b3, b4, b5, b6, b7] [] (its [])) := by show _ = _; rw [HR.out, hHe]; rfl
  obtain ⟨W3, hW3⟩ : ∃ W3, W3 = w2.alloc (.cells #[.map (some m), .slice none 0 0] 87) := ⟨_, rfl⟩
  have hB3 : Below w2.heap.size w2 W3 := by rw [hW3]; exact (Below.refl _ w2).alloc (Nat.le_refl _) _
  have hb3 : W3.heap[w2.heap.size]? = some (.cells #[.map (some m), .slice none 0 0] 87 (0, 0)) := by rw [hW3]; exact heap_alloc_new w2 _
  have hb12 := b2'.size
  have hRp : Rpt W1.heap.size w2.heap.size m n bs W3 [] := ⟨⟨_, hb3, World.ownsRow_nil _ _ _ _⟩, hmp.below hB3, hb12, hmw, by simp⟩
  have HB3 : Hid (Below w.heap.size w W3) := HB2.out.trans (hB3.mono HB2.out.size)
  have hdir := rdir_all (base := W1.heap.size) (b := w2.heap.size) (m := m) (nq := n) hsm 9 (by omega) [] [b0, b1, b2, b3, b4, b5, b6, b7] [] W3 (by simp) (fun _ q => absurd q List.not_mem_nil) rfl hRp (fun W hW => HT.out.below (HB3.out.trans ((hW.mono HB1.out.size)))) R HR2.out
  have hdir' : Calls Tryz.prog 35 #[.pointer (some ⟨w2.heap.size, 0, none⟩), .agg #[.int .u8 (b0.toNat : Int), .int .u8 (b1.toNat : Int), .int .u8 (b2.toNat : Int), .int .u8 (b3.toNat : Int), .int .u8 (b4.toNat : Int), .int .u8 (b5.toNat : Int), .int .u8 (b6.toNat : Int), .int .u8 (b7.toNat : Int)], .string ⟨#[]⟩] W3 fun e w' => e = .returned (.int .i64 R.2) ∧ Rf W1.heap.size W3 w' ∧ (R.2 = 0 → ∃ items', its items' = R.1 ∧ Rpt W1.heap.size w2.heap.size m n bs w' items') := hdir
  have hI3 : W3.heap[w.heap.size]? = some (.cells #[.int .u8 (b0.toNat : Int), .int .u8 (b1.toNat : Int), .int .u8 (b2.toNat : Int), .int .u8 (b3.toNat : Int), .int .u8 (b4.toNat : Int), .int .u8 (b5.toNat : Int), .int .u8 (b6.toNat : Int), .int .u8 (b7.toNat : Int)] 39 (0, 0)) := by
    have h2 := (b2'.block _ (Array.getElem?_eq_some_iff.1 HI1.out).1).trans HI1.out
    exact (hB3.block _ (Array.getElem?_eq_some_iff.1 h2).1).trans h2
  obtain ⟨c0, c1, c2, c3, c4, c5, c6, c7⟩ := (I8.laid hI3).cells
  rw [hE]
  clear hdir hheap hv1 hv2 b2' HR hE hHe hpl hI3 hb3 hB3 hRp hmp
  go_upto_region 5 with fail
  rw [← hW3]
  clear hW3
  go_wp2_with fail
  refine hdir'.mono ?_
  rintro e w7 ⟨rfl, f7, hz⟩
  have HB7 : Hid (Below w.heap.size w w7) := HB3.out.trans (f7.low.mono HB1.out.size)
  clear hdir' c0 c1 c2 c3 c4 c5 c6 c7
  by_cases hE : R.2 = 0
  · obtain ⟨items, hi1, ⟨⟨iv, q1, q2⟩, _, _, _, q6⟩⟩ := hz hE
    obtain ⟨d0, d1⟩ := pair_at q1
    have HF : Hid (R.2 = 0 ∧ its items = R.1 ∧ w7.ownsRow w.heap.size 27 5 iv items.length (rowR imC items) ∧ items.length ≤ 100) := ⟨hE, hi1, own_lower q2 HB1.out.size, q6⟩
    obtain ⟨ia, ic, rfl⟩ := own_form q2
    obtain ⟨IN, hIN⟩ : ∃ IN, IN = items.length := ⟨_, rfl⟩
    rw [← hIN] at d1
    rw [hE]
    have HIN : Hid (IN = items.length) := hIN
    clear hz q1 q2 hi1 hE hIN
    go_wp2_with fail
    go_ret2
    exact ⟨_, by rw [HF.out.1]; rfl, HB7.out, fun e => absurd HF.out.1 e, fun _ => ⟨items, HF.out.2.1, by rw [HIN.out]; exact HF.out.2.2.1, HF.out.2.2.2⟩⟩
  · have hne : (R.2 != 0) = true := by rw [bne_iff_ne]; exact hE
    have HE : Hid (R.2 ≠ 0) := hE
    clear hz hE
    go_wp2_with fail
    go_ret2
    exact ⟨_, rfl, HB7.out, fun _ => rfl, fun e => absurd e HE.out⟩
end Go.Proofs.YthpcbbkpjggjbaaGreatDoor
namespace Go.Proofs.YthpcbbkpjggjbaaGreatDoor
namespace Wk
theorem Fine.sub {l l' : List Pk.Bl} (h : Fine l) (hs : ∀ x ∈ l', x ∈ l) : Fine l' := ⟨fun b hb => h.ok b (hs b hb), fun a ha b hb => h.one a (hs a ha) b (hs b hb)⟩
theorem gath_fine : ∀ (r acc : List Pk.Bl), Fine (acc ++ r) → (gath r acc).2 = 0
  | [], _, _ => rfl
  | b :: r, acc, h => by
    have hb : Pk.bErr b = 0 := h.ok b (by simp)
    have hi : (into acc b).2.2 = 0 ∧ ∀ x ∈ (into acc b).1, x ∈ acc ∨ x = b := by
      unfold into
      rw [if_neg (by simp [hb])]
      cases hf : acc.find? (fun x => Pk.bid x == Pk.bid b) with
      | none => exact ⟨rfl, fun x hx => by simpa using hx⟩
      | some x =>
        have hx : Pk.bid x = Pk.bid b := by simpa using List.find?_some hf
        have hm := List.mem_of_find?_eq_some hf
        have e : x = b := h.one x (List.mem_append_left _ hm) b (by simp) hx
        simp only [e, if_true]
        exact ⟨trivial, fun y hy => .inl hy⟩
    rw [gath, if_neg (by simp [hi.1])]
    refine gath_fine r _ (h.sub fun x hx => ?_)
    rcases List.mem_append.1 hx with k | k
    · rcases hi.2 x k with q | q
      · exact List.mem_append_left _ q
      · rw [q]; simp
    · exact List.mem_append_right _ (List.mem_cons_of_mem _ k)
theorem reap_back {w : List It} {l : List Pk.Bl} {id : Bs} (hb : ∀ L, Fine L → (∀ x ∈ l, x ∈ L) → reapDir L 9 id [] [] = (w, 0)) {l' : List Pk.Bl} (hF : Fine l') (hn : l'.length ≤ 1000) (hs : ∀ x ∈ l, x ∈ l') : reapP l' id = (w, 0) := by
  have hg : (gath l' []).2 = 0 := gath_fine l' [] (by simpa using hF)
  obtain ⟨L, hL⟩ : ∃ L, gath l' [] = (L, 0) := ⟨_, Prod.ext rfl hg⟩
  have hp : heapP l' = (L, 0) := by rw [heapP, if_neg (by omega), hL]
  obtain ⟨_, h2, _, _, h5⟩ := gath_ok l' [] L hL
  rw [reapP, hp]
  simp only [ne_eq, not_true, if_false]
  exact hb L (h5 ⟨fun _ q => absurd q List.not_mem_nil, fun _ q => absurd q List.not_mem_nil⟩) fun x hx => h2 x (hs x hx)
end Wk
end Go.Proofs.YthpcbbkpjggjbaaGreatDoor
namespace Go.Proofs.YthpcbbkpjggjbaaGreatDoor
open Go.RowKit
theorem small_plantP : (plantP 16 0 0 0 Wk.small).2.2 = 0 ∧ (plantP 16 0 0 0 Wk.small).1.length = 4 := by decide +kernel
structure Pld (fx mn mx bt : Int) (l : List Im) (bs : List Pk.Bl) (root : Wk.Bs) : Prop where
  way : wayN fx mn mx bt = 0
  world : Wk.world (its l) = 0
  few : (its l).length ≤ 100
  plant : Wk.plantDir (cutF fx mn mx bt) (its l) 9 [] [] = (bs, root, 0)
  good : Wk.Good (cutF fx mn mx bt) (its l)
  fine : Wk.Fine bs
  back : ∀ L, Wk.Fine L → (∀ x ∈ bs, x ∈ L) → Wk.reapDir L 9 root [] [] = (its l, 0)
theorem its_time {l : List Im} (hok : ∀ x ∈ l, x.Ok) : ∀ x ∈ its l, -9223372036854775808 ≤ x.time ∧ x.time ≤ 9223372036854775807 := fun x hx => by
  obtain ⟨y, hy, rfl⟩ := List.mem_map.1 hx
  exact (hok y hy).time2
theorem Pld.of {fx mn mx bt : Int} {l : List Im} (hok : ∀ x ∈ l, x.Ok) (h : (plantP fx mn mx bt (its l)).2.2 = 0) : Pld fx mn mx bt l (plantP fx mn mx bt (its l)).1 (plantP fx mn mx bt (its l)).2.1 := by
  by_cases hw : wayN fx mn mx bt = 0
  case neg =>
    rw [plantP, if_pos hw] at h
    exact absurd h hw
  by_cases hd : Wk.world (its l) = 0
  case neg =>
    rw [plantP, if_neg (fun q => q hw), if_pos hd] at h
    exact absurd h hd
  have hp : plantP fx mn mx bt (its l) = Wk.plantDir (cutF fx mn mx bt) (its l) 9 [] [] := by rw [plantP, if_neg (fun q => q hw), if_neg (fun q => q hd)]
  obtain ⟨h1, h2⟩ := Wk.world_ok hd
  have hc : ∀ x ∈ its l, x.kind = 1 → (cutF fx mn mx bt x.bytes).flatten = x.bytes := fun x hx hk => cutF_join hw x.bytes ((Wk.iErr_ok (h2.each x hx)).file hk)
  have hpl : Wk.plantDir (cutF fx mn mx bt) (its l) 9 [] [] = ((plantP fx mn mx bt (its l)).1, (plantP fx mn mx bt (its l)).2.1, 0) := by
    rw [← hp, ← h]
  obtain ⟨b1, b2⟩ := Wk.world_back hd (its_time hok) hc hpl
  exact ⟨hw, hd, h1, hpl, ⟨h2, its_time hok, hc⟩, b1, b2⟩
theorem bok_fine {bs : List Blb} (h : Wk.Fine (pl bs)) : BOk bs := fun b hb => by
  obtain ⟨h1, h2⟩ := Pk.bErr_ok (h.ok b.p (List.mem_map_of_mem hb))
  have h2 : b.bytes.data.toList.length ≤ 4096 := h2
  have hk : b.kind = 1 ∨ b.kind = 2 ∨ b.kind = 3 := h1
  refine ⟨?_, by rw [Lib.size_eq]; omega⟩
  rcases hk with k | k | k <;> rw [k] <;> decide
end Go.Proofs.YthpcbbkpjggjbaaGreatDoor
namespace Go.Proofs.YthpcbbkpjggjbaaGreatDoor
open Go.RowKit
set_option maxRecDepth 4000
theorem some_way (w : World) : Calls Tryz.prog 11 #[] w fun e w' => e = .returned (wayV 16 0 0 0) ∧ Below w.heap.size w w' := by
  have HB : Hid (∀ o, Below w.heap.size w (w.alloc o)) := fun o => (Below.refl _ w).alloc (Nat.le_refl _) o
  go_enter Tryz.func11, Tryz.ntmps11
  go_wp2_with fail
  refine bodyPost_ret (v := wayV 16 0 0 0) ?_ rfl ⟨rfl, HB.out _⟩
  simp [results, asAddr, go_sem]
theorem plant_ok {fx mn mx bt : Int} {v : Value} {l : List Im} {w : World} (h : Ims w v l) (hl : l.length ≤ 140737488351232) (hok : ∀ x ∈ l, x.Ok) (hT : Tabs w) {P : List Pk.Bl × Wk.Bs × Int} (hP : P = plantP fx mn mx bt (its l)) (h0 : P.2.2 = 0) :
    Calls Tryz.prog 10 #[wayV fx mn mx bt, v] w fun e w' => ∃ v' bs, e = .returned (.tuple #[v', idV P.2.1, .int .i64 0]) ∧ pl bs = P.1 ∧ P.2.1.length = 8 ∧ w'.ownsRow w.heap.size 111 2 v' bs.length (rowR blC bs) ∧ Bx w' v' bs ∧ BOk bs ∧ bs.length ≤ 1000000 ∧ Below w.heap.size w w' := by
  refine (plant_any fx mn mx bt v l w h hl hok hT).mono ?_
  rintro e w' ⟨v', id, he, h8, hb, _, hk⟩
  rw [← hP, h0] at he hk
  obtain ⟨bs, e1, e2, e3, e4⟩ := hk rfl
  have hF : Wk.Fine (pl bs) := by
    rw [e1, hP]
    exact (Pld.of hok (by rw [← hP]; exact h0)).fine
  refine ⟨v', bs, by rw [he, e2], e1, by rw [← e2]; exact h8, e3, Rx.of_own blC_length e3, bok_fine hF, e4, hb⟩
theorem reap_ok {v : Value} {bs : List Blb} {root : Wk.Bs} {w : World} (h : Bx w v bs) (hok : BOk bs) (hl : bs.length ≤ 140737488351232) (hr : root.length = 8) (hT : Tabs w) {l : List Im} (hR : Wk.reapP (pl bs) root = (its l, 0)) :
    Calls Tryz.prog 21 #[v, idV root] w fun e w' => ∃ v', e = .returned (.tuple #[v', .int .i64 0]) ∧ Ims w' v' l ∧ w'.ownsRow w.heap.size 27 5 v' l.length (rowR imC l) ∧ l.length ≤ 100 ∧ Below w.heap.size w w' := by
  refine (reap_any v bs root w h hok hl hr hT).mono ?_
  rintro e w' ⟨v', he, hb, _, hk⟩
  rw [hR] at he hk
  obtain ⟨items, e1, e2, e3⟩ := hk rfl
  obtain rfl := its_inj e1
  exact ⟨v', he, Rx.of_own imC_length e2, e2, e3, hb⟩
set_option maxHeartbeats 4000000 in
theorem walked_any (w : World) (hT : Tabs w) : Calls Tryz.prog 4 #[] w fun e w' => e = .returned (.bool true) ∧ Below w.heap.size w w' := by
  have hok : ∀ x ∈ smallM, x.Ok := fun x hx => by
    rcases List.mem_cons.1 hx with rfl | hx
    · exact ⟨by decide, by decide, by decide⟩
    rcases List.mem_cons.1 hx with rfl | hx
    · exact ⟨by decide, by decide, by decide⟩
    exact absurd hx List.not_mem_nil
  have HOK : Hid (∀ x ∈ smallM, x.Ok) := hok
  obtain ⟨P, hP⟩ : ∃ P, P = plantP 16 0 0 0 (its smallM) := ⟨_, rfl⟩
  have HP : Hid (P = plantP 16 0 0 0 (its smallM)) := hP
  have HZ : Hid (P.2.2 = 0) := by show _ = _; rw [hP]; exact small_plantP.1
  have HL : Hid (P.1.length = 4) := by show _ = _; rw [hP]; exact small_plantP.2
  have HF : Hid (Pld 16 0 0 0 smallM P.1 P.2.1) := by
    show Pld _ _ _ _ _ _ _
    rw [hP]
    exact Pld.of hok small_plantP.1
  have hw := some_way
  have hm := some_world
  have HT : Hid (Tabs w) := hT
  clear hok hT hP
  go_enter Tryz.func4, Tryz.ntmps4
  go_wp2_with fail
  refine (hw _).mono ?_
  rintro e w1 ⟨rfl, b1⟩
  have HB1 : Hid (Below w.heap.size w w1) := b1
  clear hw b1
  go_wp2_with fail
  refine (hm _).mono ?_
  rintro e w2 ⟨a2, c2, rfl, x2, b2⟩
  have HB2 : Hid (Below w.heap.size w w2) := HB1.out.trans (b2.mono HB1.out.size)
  have hp := plant_ok x2 (by decide) HOK.out (HT.out.below HB2.out) HP.out HZ.out
  clear b2 x2
  go_wp2_with fail
  refine hp.mono ?_
  rintro e w3 ⟨v3, bs, rfl, hbs, h8, o3, x3, k3, n3, b3⟩
  have HB3 : Hid (Below w.heap.size w w3) := HB2.out.trans (b3.mono HB2.out.size)
  have HX3 : Hid (Bx w3 v3 bs ∧ BOk bs) := ⟨x3, k3⟩
  have HBS : Hid (pl bs = P.1) := hbs
  have hbl : bs.length = 4 := by rw [← pl_length, hbs, HL.out]
  obtain ⟨d0, d1, d2, d3, d4, d5, d6, d7, hid⟩ := eight _ h8
  have hag : idV [d0, d1, d2, d3, d4, d5, d6, d7] = .agg #[.int .u8 (d0.toNat : Int), .int .u8 (d1.toNat : Int), .int .u8 (d2.toNat : Int), .int .u8 (d3.toNat : Int), .int .u8 (d4.toNat : Int), .int .u8 (d5.toNat : Int), .int .u8 (d6.toNat : Int), .int .u8 (d7.toNat : Int)] := rfl
  rw [hid, hag]
  have HID : Hid (P.2.1 = [d0, d1, d2, d3, d4, d5, d6, d7]) := hid
  obtain ⟨W4, hW4⟩ : ∃ W4, W4 = w3.alloc (.cells #[.int .u8 (d0.toNat : Int), .int .u8 (d1.toNat : Int), .int .u8 (d2.toNat : Int), .int .u8 (d3.toNat : Int), .int .u8 (d4.toNat : Int), .int .u8 (d5.toNat : Int), .int .u8 (d6.toNat : Int), .int .u8 (d7.toNat : Int)] 39) := ⟨_, rfl⟩
  have HB4 : Hid (Below w.heap.size w W4) := by rw [hW4]; exact HB3.out.trans (((Below.refl _ w3).alloc (Nat.le_refl _) _).mono HB3.out.size)
  have HX4 : Hid (Bx W4 v3 bs) := HX3.out.1.below (by rw [hW4]; exact (Below.refl _ w3).alloc (Nat.le_refl _) _)
  obtain ⟨a3, c3, e3, _, _⟩ := x3.slice
  subst e3
  rw [hbl] at HX4 ⊢
  have hr := reap_ok (root := [d0, d1, d2, d3, d4, d5, d6, d7]) HX4.out k3 (by omega) rfl (HT.out.below HB4.out) (l := smallM) (Wk.reap_back (by rw [← hid]; exact HF.out.back) (by rw [hbs]; exact HF.out.fine) (by rw [pl_length]; omega) (fun x hx => by rw [hbs]; exact hx))
  rw [hag] at hr
  clear hp b3 h8 o3 n3 hbs hid x3 k3 hag
  have HM4 : Hid (I8 W4 w3.heap.size [d0, d1, d2, d3, d4, d5, d6, d7]) := by rw [hW4]; exact I8.laid (heap_alloc_new w3 _)
  obtain ⟨y0, y1, y2, y3, y4, y5, y6, y7⟩ := HM4.out.cells
  obtain ⟨bk, hbk⟩ : ∃ bk, bk = w3.heap.size := ⟨_, rfl⟩
  go_upto_region 2 with fail
  rw [← hW4]
  rw [← hbk] at y0 y1 y2 y3 y4 y5 y6 y7 ⊢
  clear hW4 hbk HM4
  go_wp2_with fail
  refine hr.mono ?_
  rintro e w5 ⟨v5, rfl, x5, o5, n5, b5⟩
  have HB5 : Hid (Below w.heap.size w w5) := HB4.out.trans (b5.mono HB4.out.size)
  obtain ⟨a5, c5, rfl, _, _⟩ := x5.slice
  have HX5 : Hid (Ims w5 (.slice a5 smallM.length c5) smallM) := x5
  have hln : smallM.length = 2 := rfl
  rw [hln] at HX5 ⊢
  clear hr b5 x5 o5 n5 hln y0 y1 y2 y3 y4 y5 y6 y7
  go_wp2_with fail
  refine (hm _).mono ?_
  rintro e w6 ⟨a6, c6, rfl, x6, b6⟩
  have HB6 : Hid (Below w.heap.size w w6) := HB5.out.trans (b6.mono HB5.out.size)
  have he := equal_items (.slice a5 2 c5) (.slice (some a6) 2 c6) smallM smallM w6 (HX5.out.below b6) x6 (by decide)
  clear b6 x6 hm
  go_wp2_with fail
  refine he.mono ?_
  rintro e w7 ⟨b, rfl, hb, b7⟩
  have HB7 : Hid (Below w.heap.size w w7) := HB6.out.trans (b7.mono HB6.out.size)
  obtain rfl : b = true := hb.2 (by first | exact trivial | rfl)
  clear he b7 hb
  go_wp2_with fail
  go_ret
  exact ⟨rfl, HB7.out⟩
end Go.Proofs.YthpcbbkpjggjbaaGreatDoor
namespace Go.Proofs.YthpcbbkpjggjbaaGreatDoor
open Go.RowKit
set_option maxRecDepth 4000
structure Dw (w W : World) (gp gq gr : Nat) (l0 l1 : List Im) (l2 : List Em) : Prop where
  p : W.ownsRow w.heap.size 27 5 (.slice (some ⟨gp, 0, none⟩) (l0.length + 2) (l0.length + 3)) (l0.length + 2) (rowR imC (l0 ++ [(⟨⟨#[]⟩, 0, 5, 0, ⟨#[]⟩⟩ : Im), (⟨⟨#[]⟩, 0, 5, 0, ⟨#[]⟩⟩ : Im)]))
  q : W.ownsRow w.heap.size 27 5 (.slice (some ⟨gq, 0, none⟩) (l1.length + 2) (l1.length + 3)) (l1.length + 2) (rowR imC (l1 ++ [(⟨⟨#[]⟩, 0, 5, 0, ⟨#[]⟩⟩ : Im), (⟨⟨#[]⟩, 0, 5, 0, ⟨#[]⟩⟩ : Im)]))
  r : W.ownsRow w.heap.size 30 7 (.slice (some ⟨gr, 0, none⟩) (l2.length + 2) (l2.length + 3)) (l2.length + 2) (rowR emC (l2 ++ [(⟨⟨#[63]⟩, false, ⟨⟨#[]⟩, 0, 0, 0, ⟨#[]⟩⟩⟩ : Em), (⟨⟨#[63]⟩, false, ⟨⟨#[]⟩, 0, 0, 0, ⟨#[]⟩⟩⟩ : Em)]))
  bel : Below w.heap.size w W
theorem Dw.past {w W W' : World} {gp gq gr : Nat} {l0 l1 : List Im} {l2 : List Em} (h : Dw w W gp gq gr l0 l1 l2) (hb : Below W.heap.size W W') : Dw w W' gp gq gr l0 l1 l2 :=
  ⟨own_below h.p hb, own_below h.q hb, own_below h.r hb, h.bel.trans (hb.mono h.bel.size)⟩
theorem ddiff_few {a b : List Wk.It} {D : List Dl.Ed} {E : Int} (h : Dl.diff a b = (D, E)) : D.length ≤ 200 := by
  by_cases e : E = 0
  · obtain ⟨h1, h2⟩ := (diff_err h).1 e
    have := (Dl.check_ok.1 (Dl.diff_ok h1 h2).2).1
    rwa [h] at this
  · rw [((diff_err h).2 e).1]; simp
theorem djoin_few {l m L : List Dl.Ed} {E : Int} (h : Dl.join l m = (L, E)) : L.length ≤ 200 := by
  by_cases e : E = 0
  · subst e
    obtain ⟨_, _, rfl, k⟩ := Dl.join_zero h
    exact k
  · have : L = [] := by
      unfold Dl.join at h
      split at h
      · exact (congrArg Prod.fst h).symm
      · split at h
        · exact (congrArg Prod.fst h).symm
        · split at h
          · exact (congrArg Prod.fst h).symm
          · exact absurd (congrArg Prod.snd h).symm e
    rw [this]
    simp
theorem dapply_few {a B : List Wk.It} {l : List Dl.Ed} {E : Int} (h : Dl.apply a l = (B, E)) : B.length ≤ 100 := by
  by_cases e : E = 0
  · subst e
    obtain ⟨_, _, rfl, k⟩ := Dl.apply_zero h
    exact (Dl.wld k).1
  · have : B = [] := by
      unfold Dl.apply at h
      split at h
      · exact (congrArg Prod.fst h).symm
      · split at h
        · exact (congrArg Prod.fst h).symm
        · split at h
          · exact (congrArg Prod.fst h).symm
          · exact absurd (congrArg Prod.snd h).symm e
    rw [this]
    simp
set_option maxHeartbeats 16000000 in
theorem deltaOwn_walk (v0 : Value) (l0 : List Im) (v1 : Value) (l1 : List Im) (v2 : Value) (l2 : List Em) (z0 : l0.length * 56 ≤ 140737488351232) (f0 : ∀ x ∈ l0, x.Ok) (z1 : l1.length * 56 ≤ 140737488351232) (f1 : ∀ x ∈ l1, x.Ok) (z2 : l2.length * 80 ≤ 140737488351232) (f2 : ∀ x ∈ l2, x.Ok) (w : World) (t0 : Ims w v0 l0) (t1 : Ims w v1 l1) (t2 : Eds w v2 l2) (hT : Tabs w) :
    Calls Tryz.prog 3 #[v0, v1, v2] w fun e w' => e = .returned (.bool true) ∧ Below w.heap.size w w' := by
  have X0 : Hid (Ims w v0 l0) := t0
  have X1 : Hid (Ims w v1 l1) := t1
  have X2 : Hid (Eds w v2 l2) := t2
  have O0 : Hid (∀ x ∈ l0, x.Ok) := f0
  have O1 : Hid (∀ x ∈ l1, x.Ok) := f1
  have O2 : Hid (∀ x ∈ l2, x.Ok) := f2
  have HT : Hid (Tabs w) := hT
  have h1 := walked_any w hT
  clear t0 t1 t2 f0 f1 f2 hT
  go_enter Tryz.func3, Tryz.ntmps3
  go_wp2_with fail
  refine h1.mono ?_
  rintro e w1 ⟨rfl, b1⟩
  have HB1 : Hid (Below w.heap.size w w1) := b1
  clear h1 b1
  have hx := ample_ims v0 l0 ⟨#[]⟩ ⟨#[]⟩ 0 5 0 w1 (X0.out.below HB1.out) z0
  go_wp2_with fail
  refine hx.mono ?_
  rintro e w2 ⟨gp, rfl, o2, b2⟩
  have HB2 : Hid (Below w.heap.size w w2) := HB1.out.trans (b2.mono HB1.out.size)
  have HO2 : Hid (w2.ownsRow w.heap.size 27 5 (.slice (some ⟨gp, 0, none⟩) (l0.length + 2) (l0.length + 3)) (l0.length + 2) (rowR imC (l0 ++ [(⟨⟨#[]⟩, 0, 5, 0, ⟨#[]⟩⟩ : Im), (⟨⟨#[]⟩, 0, 5, 0, ⟨#[]⟩⟩ : Im)]))) := rown_low o2 HB1.out.size
  clear hx b2 o2
  have hx := ample_ims v1 l1 ⟨#[]⟩ ⟨#[]⟩ 0 5 0 w2 (X1.out.below HB2.out) z1
  go_wp2_with fail
  refine hx.mono ?_
  rintro e w3 ⟨gq, rfl, o3, b3⟩
  have HB3 : Hid (Below w.heap.size w w3) := HB2.out.trans (b3.mono HB2.out.size)
  have HO23 : Hid (w3.ownsRow w.heap.size 27 5 (.slice (some ⟨gp, 0, none⟩) (l0.length + 2) (l0.length + 3)) (l0.length + 2) (rowR imC (l0 ++ [(⟨⟨#[]⟩, 0, 5, 0, ⟨#[]⟩⟩ : Im), (⟨⟨#[]⟩, 0, 5, 0, ⟨#[]⟩⟩ : Im)]))) := own_below HO2.out b3
  have HO3 : Hid (w3.ownsRow w.heap.size 27 5 (.slice (some ⟨gq, 0, none⟩) (l1.length + 2) (l1.length + 3)) (l1.length + 2) (rowR imC (l1 ++ [(⟨⟨#[]⟩, 0, 5, 0, ⟨#[]⟩⟩ : Im), (⟨⟨#[]⟩, 0, 5, 0, ⟨#[]⟩⟩ : Im)]))) := rown_low o3 HB2.out.size
  have HG1 : Hid (gp < gq) := by
    have h1 := (HO2.out.lt gp rfl).2
    have h2 := (o3.lt gq rfl).1
    show _ < _
    omega
  clear hx b3 o3 HO2
  have hx := ample_eds v2 l2 ⟨#[63]⟩ ⟨#[]⟩ ⟨#[]⟩ false 0 0 0 w3 (X2.out.below HB3.out) z2
  go_wp2_with fail
  refine hx.mono ?_
  rintro e w4 ⟨gr, rfl, o4, b4⟩
  have HW4 : Hid (Dw w w4 gp gq gr l0 l1 l2) := ⟨own_below HO23.out b4, own_below HO3.out b4, rown_low o4 HB3.out.size, HB3.out.trans (b4.mono HB3.out.size)⟩
  have HG : Hid (w.heap.size ≤ gp ∧ gp < gq ∧ gq < gr ∧ gr < w4.heap.size) := by
    have h1 := (HO23.out.lt gp rfl).1
    have h2 := (HO3.out.lt gq rfl).2
    have h3 := o4.lt gr rfl
    have h4 := HG1.out
    exact ⟨h1, h4, by omega, h3.2⟩
  clear hx b4 o4 HO23 HO3 HB2 HB3 HG1
  obtain ⟨D1, E1, hD1⟩ : ∃ D E, Dl.diff (its l0) (its l1) = (D, E) := ⟨_, _, rfl⟩
  have hd := ddiff_say (amp_rx imC_length HW4.out.p (by omega)) (amp_rx imC_length HW4.out.q (by omega)) (by omega) (by omega) O0.out O1.out (HT.out.below HW4.out.bel) hD1
  go_wp2_with fail
  refine hd.mono ?_
  rintro e w5 ⟨da, dc, ld, rfl, o5, hd5, k5, b5⟩
  have hg5 : ld.length ≤ 200 := by rw [← edl_length, hd5]; exact ddiff_few hD1
  have HW5 : Hid (Dw w w5 gp gq gr l0 l1 l2) := HW4.out.past b5
  have HD5 : Hid (w5.ownsRow w4.heap.size 30 7 (.slice da ld.length dc) ld.length (rowR emC ld)) := o5
  have HKd : Hid (∀ x ∈ ld, x.Ok) := k5
  have HS5 : Hid (w4.heap.size ≤ w5.heap.size) := b5.size
  have HDb5 : Hid (∀ g, Value.ownBlock (.slice da ld.length dc) = some g → w4.heap.size ≤ g ∧ g < w5.heap.size) := fun g hg => o5.lt g hg
  clear hd o5 hd5 k5 b5 hD1 HW4
  obtain ⟨D2, E2, hD2⟩ : ∃ D E, Dl.apply (its l0) (edl l2) = (D, E) := ⟨_, _, rfl⟩
  have hd := dapply_any _ _ l0 l2 w5 (amp_rx imC_length HW5.out.p (by omega)) (amp_rx emC_length HW5.out.r (by omega)) (by omega) (by omega) O0.out O2.out (HT.out.below HW5.out.bel)
  rw [hD2] at hd
  dsimp only at hd
  go_wp2_with fail
  refine hd.mono ?_
  rintro e w6 ⟨vo, lo, rfl, o6, hd6, _, b6⟩
  have hg6 : lo.length ≤ 100 := by rw [← its_length, hd6]; exact dapply_few hD2
  have HW6 : Hid (Dw w w6 gp gq gr l0 l1 l2) := HW5.out.past b6
  have HD6 : Hid (w6.ownsRow w4.heap.size 30 7 (.slice da ld.length dc) ld.length (rowR emC ld)) := own_below HD5.out b6
  have HA6 : Hid (Ap 5 imC w5.heap.size w6.heap.size w6 vo lo) := Ap.of_own imC_length o6
  have HS6 : Hid (w5.heap.size ≤ w6.heap.size) := b6.size
  clear hd o6 hd6 b6 hD2 HW5
  obtain ⟨D3, E3, hD3⟩ : ∃ D E, Dl.join (edl l2) (edl ld) = (D, E) := ⟨_, _, rfl⟩
  have hd := djoin_any _ (.slice da ld.length dc) l2 ld w6 (amp_rx emC_length HW6.out.r (by omega)) (Rx.of_own emC_length HD6.out) (by omega) (by omega) O2.out HKd.out (HT.out.below HW6.out.bel)
  rw [hD3] at hd
  dsimp only at hd
  generalize hld : ld.length = nd at *
  go_wp2_with fail
  refine hd.mono ?_
  rintro e w7 ⟨vb, lb, rfl, o7, hd7, _, b7⟩
  have hg7 : lb.length ≤ 200 := by rw [← edl_length, hd7]; exact djoin_few hD3
  have HW7 : Hid (Dw w w7 gp gq gr l0 l1 l2) := HW6.out.past b7
  have HD7 : Hid (w7.ownsRow w4.heap.size 30 7 (.slice da nd dc) nd (rowR emC ld)) := own_below HD6.out b7
  have HA7 : Hid (Ap 5 imC w5.heap.size w6.heap.size w7 vo lo) := HA6.out.below b7
  have HJ7 : Hid (Ap 7 emC w6.heap.size w7.heap.size w7 vb lb) := Ap.of_own emC_length o7
  have HS7 : Hid (w6.heap.size ≤ w7.heap.size) := b7.size
  have HNd : Hid (nd = ld.length) := hld.symm
  clear hd o7 hd7 b7 hD3 HW6 HD5 HD6 HA6 HKd
  have hy := fun (W : World) => some_way W
  go_wp2_with fail
  refine (hy _).mono ?_
  rintro e w8 ⟨rfl, b8⟩
  have HB8 : Hid (Below w7.heap.size w7 w8) := b8
  have hp := plant_any 16 0 0 0 (.slice (some ⟨gp, 0, none⟩) l0.length (l0.length + 3)) l0 w8 (amp_rx imC_length (HW7.out.past b8).p (by omega)) (by omega) O0.out (HT.out.below (HW7.out.past b8).bel)
  clear hy b8
  go_wp2_with fail
  refine hp.mono ?_
  rintro e w9 ⟨pv, pid, rfl, _, b9, _⟩
  have hb9 : Below w7.heap.size w7 w9 := HB8.out.trans (b9.mono HB8.out.size)
  have HW9 : Hid (Dw w w9 gp gq gr l0 l1 l2) := HW7.out.past hb9
  have HD9 : Hid (w9.ownsRow w4.heap.size 30 7 (.slice da nd dc) nd (rowR emC ld)) := own_below HD7.out hb9
  have HA9 : Hid (Ap 5 imC w5.heap.size w6.heap.size w9 vo lo) := HA7.out.below hb9
  have HJ9 : Hid (Ap 7 emC w6.heap.size w7.heap.size w9 vb lb) := HJ7.out.below hb9
  have HS9 : Hid (w7.heap.size ≤ w9.heap.size) := hb9.size
  clear hp b9 hb9 HW7 HD7 HA7 HJ7 HB8
  have HS0 : Hid (∀ W, Dw w W gp gq gr l0 l1 l2 → Calls Tryz.prog 12 #[.slice (some ⟨gp, 0, none⟩) l0.length (l0.length + 3), v0, .agg #[.string ⟨#[]⟩, .int .i64 0, .int .i64 5, .int .i64 0, .string ⟨#[]⟩]] W fun e w' => e = .returned (.bool true) ∧ Below W.heap.size W w') := fun W hW => stays_ims gp v0 l0 ⟨#[]⟩ ⟨#[]⟩ 0 5 0 W _ hW.p (X0.out.below hW.bel) z0
  have HS1 : Hid (∀ W, Dw w W gp gq gr l0 l1 l2 → Calls Tryz.prog 12 #[.slice (some ⟨gq, 0, none⟩) l1.length (l1.length + 3), v1, .agg #[.string ⟨#[]⟩, .int .i64 0, .int .i64 5, .int .i64 0, .string ⟨#[]⟩]] W fun e w' => e = .returned (.bool true) ∧ Below W.heap.size W w') := fun W hW => stays_ims gq v1 l1 ⟨#[]⟩ ⟨#[]⟩ 0 5 0 W _ hW.q (X1.out.below hW.bel) z1
  have HS2 : Hid (∀ W, Dw w W gp gq gr l0 l1 l2 → Calls Tryz.prog 13 #[.slice (some ⟨gr, 0, none⟩) l2.length (l2.length + 3), v2, .agg #[.string ⟨#[63]⟩, .bool false, .string ⟨#[]⟩, .int .i64 0, .int .i64 0, .int .i64 0, .string ⟨#[]⟩]] W fun e w' => e = .returned (.bool true) ∧ Below W.heap.size W w') := fun W hW => stays_eds gr v2 l2 ⟨#[63]⟩ ⟨#[]⟩ ⟨#[]⟩ false 0 0 0 W _ hW.r (X2.out.below hW.bel) z2
  go_wp2_with fail
  refine (HS0.out _ HW9.out).mono ?_
  rintro e w10 ⟨rfl, b10⟩
  have HW10 : Hid (Dw w w10 gp gq gr l0 l1 l2) := HW9.out.past b10
  have HC10 : Hid (Below w9.heap.size w9 w10) := b10
  clear b10
  go_wp2_with fail
  refine (HS1.out _ HW10.out).mono ?_
  rintro e w11 ⟨rfl, b11⟩
  have HW11 : Hid (Dw w w11 gp gq gr l0 l1 l2) := HW10.out.past b11
  have HC11 : Hid (Below w9.heap.size w9 w11) := HC10.out.trans (b11.mono HC10.out.size)
  clear b11
  go_wp2_with fail
  refine (HS2.out _ HW11.out).mono ?_
  rintro e w12 ⟨rfl, b12⟩
  have HW12 : Hid (Dw w w12 gp gq gr l0 l1 l2) := HW11.out.past b12
  have hc12 : Below w9.heap.size w9 w12 := HC11.out.trans (b12.mono HC11.out.size)
  have HD12 : Hid (w12.ownsRow w4.heap.size 30 7 (.slice da nd dc) nd (rowR emC ld)) := own_below HD9.out hc12
  have HA12 : Hid (Ap 5 imC w5.heap.size w6.heap.size w12 vo lo) := HA9.out.below hc12
  have HJ12 : Hid (Ap 7 emC w6.heap.size w7.heap.size w12 vb lb) := HJ9.out.below hc12
  have HS12 : Hid (w7.heap.size ≤ w12.heap.size) := Nat.le_trans HS9.out hc12.size
  clear b12 hc12 HC10 HC11 HW9 HW10 HW11 HD9 HA9 HJ9 HS9 HS0 HS1 HS2
  have hcl := clone_cem (.slice da nd dc) ld w12 (by have h := HD12.out; rw [HNd.out] at h ⊢; exact Rx.of_own emC_length h) (by have := HNd.out; omega)
  go_wp2_with fail
  refine hcl.mono ?_
  rintro e w13 ⟨vp, rfl, o13, b13⟩
  have HW13 : Hid (Dw w w13 gp gq gr l0 l1 l2) := HW12.out.past b13
  have HD13 : Hid (w13.ownsRow w4.heap.size 30 7 (.slice da nd dc) nd (rowR emC ld)) := own_below HD12.out b13
  have HA13 : Hid (Ap 5 imC w5.heap.size w6.heap.size w13 vo lo) := HA12.out.below b13
  have HJ13 : Hid (Ap 7 emC w6.heap.size w7.heap.size w13 vb lb) := HJ12.out.below b13
  have HP13 : Hid (Ap 7 emC w12.heap.size w13.heap.size w13 vp ld) := Ap.of_own emC_length o13
  have HS13 : Hid (w12.heap.size ≤ w13.heap.size) := b13.size
  clear hcl o13 b13 HW12 HD12 HA12 HJ12
  have hcl := clone_cim vo lo w13 HA13.out.rx (by omega)
  go_wp2_with fail
  refine hcl.mono ?_
  rintro e w14 ⟨vq, rfl, o14, b14⟩
  have HW14 : Hid (Dw w w14 gp gq gr l0 l1 l2) := HW13.out.past b14
  have HD14 : Hid (w14.ownsRow w4.heap.size 30 7 (.slice da nd dc) nd (rowR emC ld)) := own_below HD13.out b14
  have HA14 : Hid (Ap 5 imC w5.heap.size w6.heap.size w14 vo lo) := HA13.out.below b14
  have HJ14 : Hid (Ap 7 emC w6.heap.size w7.heap.size w14 vb lb) := HJ13.out.below b14
  have HP14 : Hid (Ap 7 emC w12.heap.size w13.heap.size w14 vp ld) := HP13.out.below b14
  have HQ14 : Hid (Ap 5 imC w13.heap.size w14.heap.size w14 vq lo) := Ap.of_own imC_length o14
  have HS14 : Hid (w13.heap.size ≤ w14.heap.size) := b14.size
  clear hcl o14 b14 HW13 HD13 HA13 HJ13 HP13
  have hcl := clone_cem vb lb w14 HJ14.out.rx (by omega)
  go_wp2_with fail
  refine hcl.mono ?_
  rintro e w15 ⟨vr, rfl, o15, b15⟩
  have HW15 : Hid (Dw w w15 gp gq gr l0 l1 l2) := HW14.out.past b15
  have HD15 : Hid (w15.ownsRow w4.heap.size 30 7 (.slice da nd dc) nd (rowR emC ld)) := own_below HD14.out b15
  have HA15 : Hid (Ap 5 imC w4.heap.size w15.heap.size w15 vo lo) := (HA14.out.below b15).wide HS5.out (by have := HS7.out; have := HS12.out; have := HS13.out; have := HS14.out; have := b15.size; omega)
  have HJ15 : Hid (Ap 7 emC w6.heap.size w15.heap.size w15 vb lb) := (HJ14.out.below b15).wide (Nat.le_refl _) (by have := HS12.out; have := HS13.out; have := HS14.out; have := b15.size; omega)
  have HP15 : Hid (Ap 7 emC w4.heap.size w15.heap.size w15 vp ld) := (HP14.out.below b15).wide (by have := HS5.out; have := HS6.out; have := HS7.out; have := HS12.out; omega) (by have := HS14.out; have := b15.size; omega)
  have HQ15 : Hid (Ap 5 imC w4.heap.size w15.heap.size w15 vq lo) := (HQ14.out.below b15).wide (by have := HS5.out; have := HS6.out; have := HS7.out; have := HS12.out; have := HS13.out; omega) b15.size
  have HR15 : Hid (Ap 7 emC w6.heap.size w15.heap.size w15 vr lb) := (Ap.of_own emC_length o15).wide (by have := HS7.out; have := HS12.out; have := HS13.out; have := HS14.out; omega) (Nat.le_refl _)
  have HDb : Hid (∀ g, Value.ownBlock (.slice da nd dc) = some g → w4.heap.size ≤ g ∧ g < w6.heap.size) := fun g hg => ⟨(HDb5.out g hg).1, Nat.lt_of_lt_of_le (HDb5.out g hg).2 HS6.out⟩
  clear hcl o15 b15 HW14 HD14 HA14 HJ14 HP14 HQ14
  have rp := Room.of_own HW15.out.p
  have RQ : Hid (Room w15 gq ((l1.length + 3) * 5) 27) := Room.of_own HW15.out.q
  have RR : Hid (Room w15 gr ((l2.length + 3) * 7) 30) := Room.of_own HW15.out.r
  have B15 : Hid (Below w.heap.size w w15) := HW15.out.bel
  have LQ : Hid (gq < w15.heap.size ∧ gr < w15.heap.size) := ⟨(HW15.out.q.lt gq rfl).2, (HW15.out.r.lt gr rfl).2⟩
  have hsp := spoil_ims gp l0.length (l0.length + 3) ⟨#[]⟩ ⟨#[]⟩ 0 0 0 w15 rp (by omega) (HW15.out.p.lt gp rfl).2
  clear rp HW15
  go_wp2_with fail
  refine hsp.mono ?_
  rintro e w16 ⟨rfl, k16⟩
  have HD16 : Hid (w16.ownsRow w4.heap.size 30 7 (.slice da nd dc) nd (rowR emC ld)) := own_kept HD15.out k16 fun j hj => by have h1 := HDb.out j hj; have h2 := HG.out; show j ≠ gp; omega
  have HA16 : Hid (Ap 5 imC w4.heap.size w15.heap.size w16 vo lo) := HA15.out.kept k16 (.inl (by have := HG.out; have := HS5.out; have := HS6.out; omega))
  have HJ16 : Hid (Ap 7 emC w6.heap.size w15.heap.size w16 vb lb) := HJ15.out.kept k16 (.inl (by have := HG.out; have := HS5.out; have := HS6.out; omega))
  have HP16 : Hid (Ap 7 emC w4.heap.size w15.heap.size w16 vp ld) := HP15.out.kept k16 (.inl (by have := HG.out; have := HS5.out; have := HS6.out; omega))
  have HQ16 : Hid (Ap 5 imC w4.heap.size w15.heap.size w16 vq lo) := HQ15.out.kept k16 (.inl (by have := HG.out; have := HS5.out; have := HS6.out; omega))
  have HR16 : Hid (Ap 7 emC w6.heap.size w15.heap.size w16 vr lb) := HR15.out.kept k16 (.inl (by have := HG.out; have := HS5.out; have := HS6.out; omega))
  have B16 : Hid (Below w.heap.size w w16) := B15.out.trans (k16.below B15.out.size fun q hq e => by have := HG.out; omega)
  have Z16 : Hid (w15.heap.size ≤ w16.heap.size) := k16.size
  have rq : Room w16 gq ((l1.length + 3) * 5) 27 := RQ.out.kept k16 (by have := HG.out; show gq ≠ gp; omega)
  have RR16 : Hid (Room w16 gr ((l2.length + 3) * 7) 30) := RR.out.kept k16 (by have := HG.out; show gr ≠ gp; omega)
  have hsp := spoil_ims gq l1.length (l1.length + 3) ⟨#[]⟩ ⟨#[]⟩ 0 0 0 w16 rq (by omega) (Nat.lt_of_lt_of_le LQ.out.1 k16.size)
  clear k16 rq RQ RR HD15 HA15 HJ15 HP15 HQ15 HR15
  go_wp2_with fail
  refine hsp.mono ?_
  rintro e w17 ⟨rfl, k17⟩
  have HD17 : Hid (w17.ownsRow w4.heap.size 30 7 (.slice da nd dc) nd (rowR emC ld)) := own_kept HD16.out k17 fun j hj => by have h1 := HDb.out j hj; have h2 := HG.out; show j ≠ gq; omega
  have HA17 : Hid (Ap 5 imC w4.heap.size w15.heap.size w17 vo lo) := HA16.out.kept k17 (.inl (by have := HG.out; have := HS5.out; have := HS6.out; omega))
  have HJ17 : Hid (Ap 7 emC w6.heap.size w15.heap.size w17 vb lb) := HJ16.out.kept k17 (.inl (by have := HG.out; have := HS5.out; have := HS6.out; omega))
  have HP17 : Hid (Ap 7 emC w4.heap.size w15.heap.size w17 vp ld) := HP16.out.kept k17 (.inl (by have := HG.out; have := HS5.out; have := HS6.out; omega))
  have HQ17 : Hid (Ap 5 imC w4.heap.size w15.heap.size w17 vq lo) := HQ16.out.kept k17 (.inl (by have := HG.out; have := HS5.out; have := HS6.out; omega))
  have HR17 : Hid (Ap 7 emC w6.heap.size w15.heap.size w17 vr lb) := HR16.out.kept k17 (.inl (by have := HG.out; have := HS5.out; have := HS6.out; omega))
  have B17 : Hid (Below w.heap.size w w17) := B16.out.trans (k17.below B16.out.size fun q hq e => by have := HG.out; omega)
  have Z17 : Hid (w15.heap.size ≤ w17.heap.size) := Nat.le_trans Z16.out k17.size
  have rr : Room w17 gr ((l2.length + 3) * 7) 30 := RR16.out.kept k17 (by have := HG.out; show gr ≠ gq; omega)
  have hsp := spoil_eds gr l2.length (l2.length + 3) ⟨#[]⟩ ⟨#[]⟩ ⟨#[]⟩ false 0 0 0 w17 rr (by omega) (Nat.lt_of_lt_of_le LQ.out.2 Z17.out)
  clear k17 rr RR16 HD16 HA16 HJ16 HP16 HQ16 HR16
  go_wp2_with fail
  refine hsp.mono ?_
  rintro e w18 ⟨rfl, k18⟩
  have HD18 : Hid (w18.ownsRow w4.heap.size 30 7 (.slice da nd dc) nd (rowR emC ld)) := own_kept HD17.out k18 fun j hj => by have h1 := HDb.out j hj; have h2 := HG.out; show j ≠ gr; omega
  have HA18 : Hid (Ap 5 imC w4.heap.size w15.heap.size w18 vo lo) := HA17.out.kept k18 (.inl (by have := HG.out; have := HS5.out; have := HS6.out; omega))
  have HJ18 : Hid (Ap 7 emC w6.heap.size w15.heap.size w18 vb lb) := HJ17.out.kept k18 (.inl (by have := HG.out; have := HS5.out; have := HS6.out; omega))
  have HP18 : Hid (Ap 7 emC w4.heap.size w15.heap.size w18 vp ld) := HP17.out.kept k18 (.inl (by have := HG.out; have := HS5.out; have := HS6.out; omega))
  have HQ18 : Hid (Ap 5 imC w4.heap.size w15.heap.size w18 vq lo) := HQ17.out.kept k18 (.inl (by have := HG.out; have := HS5.out; have := HS6.out; omega))
  have HR18 : Hid (Ap 7 emC w6.heap.size w15.heap.size w18 vr lb) := HR17.out.kept k18 (.inl (by have := HG.out; have := HS5.out; have := HS6.out; omega))
  have B18 : Hid (Below w.heap.size w w18) := B17.out.trans (k18.below B17.out.size fun q hq e => by have := HG.out; omega)
  have Z18 : Hid (w15.heap.size ≤ w18.heap.size) := Nat.le_trans Z17.out k18.size
  clear k18 hsp HD17 HA17 HJ17 HP17 HQ17 HR17
  have hE1 := fun (W : World) (hW : Below w18.heap.size w18 W) => equal_em (.slice da nd dc) vp ld W (by have h := own_below HD18.out hW; rw [HNd.out] at h ⊢; exact Rx.of_own emC_length h) (HP18.out.below hW).rx (by have := HNd.out; omega)
  have hE2 := fun (W : World) (hW : Below w18.heap.size w18 W) => equal_im vo vq lo W (HA18.out.below hW).rx (HQ18.out.below hW).rx (by omega)
  have hE3 := fun (W : World) (hW : Below w18.heap.size w18 W) => equal_em vb vr lb W (HJ18.out.below hW).rx (HR18.out.below hW).rx (by omega)
  go_wp2_with fail
  refine (hE1 _ (Below.refl _ _)).mono ?_
  rintro e w19 ⟨rfl, b19⟩
  have HB19 : Hid (Below w18.heap.size w18 w19) := b19
  clear b19 hE1
  go_wp2_with fail
  refine (hE2 _ HB19.out).mono ?_
  rintro e w20 ⟨rfl, b20⟩
  have HB20 : Hid (Below w18.heap.size w18 w20) := HB19.out.trans (b20.mono HB19.out.size)
  clear b20 hE2
  go_wp2_with fail
  refine (hE3 _ HB20.out).mono ?_
  rintro e w21 ⟨rfl, b21⟩
  have hb21 : Below w18.heap.size w18 w21 := HB20.out.trans (b21.mono HB20.out.size)
  have HJ21 : Hid (Ap 7 emC w6.heap.size w15.heap.size w21 vb lb) := HJ18.out.below hb21
  have HR21 : Hid (Ap 7 emC w6.heap.size w15.heap.size w21 vr lb) := HR18.out.below hb21
  have B21 : Hid (Below w.heap.size w w21) := B18.out.trans (hb21.mono B18.out.size)
  have hO21 := own_below HD18.out hb21
  have hspo := spoil_ans hO21
  have HGe : Hid (∀ g m c, (Value.slice da nd dc) = .slice (some ⟨g, 0, none⟩) m c → g < w6.heap.size ∧ w4.heap.size ≤ g) := fun g m c h => by
    have := HDb.out g (by rw [h]; rfl)
    exact ⟨this.2, this.1⟩
  clear b21 hb21 hE3 hO21 HD18 HA18 HJ18 HP18 HQ18 HR18
  go_wp2_with fail
  refine hspo.mono ?_
  rintro e w22 ⟨rfl, hk22⟩
  have HK22 : Hid (Ap 7 emC w6.heap.size w15.heap.size w22 vb lb ∧ Ap 7 emC w6.heap.size w15.heap.size w22 vr lb ∧ Below w.heap.size w w22) := by
    rcases hk22 with hb | ⟨g, m, c, hv, hk⟩
    · exact ⟨HJ21.out.below hb, HR21.out.below hb, B21.out.trans (hb.mono B21.out.size)⟩
    · have hg := HGe.out g m c hv
      exact ⟨HJ21.out.kept hk (.inl hg.1), HR21.out.kept hk (.inl hg.1), B21.out.trans (hk.below B21.out.size fun q hq e => by have := HG.out; omega)⟩
  have hE4 := equal_em vb vr lb w22 HK22.out.1.rx HK22.out.2.1.rx (by omega)
  clear hspo hk22
  go_wp2_with fail
  refine hE4.mono ?_
  rintro e w23 ⟨rfl, b23⟩
  have HB23 : Hid (Below w.heap.size w w23) := HK22.out.2.2.trans (b23.mono HK22.out.2.2.size)
  clear hE4 b23
  go_wp2_with fail
  go_ret
  exact ⟨rfl, HB23.out⟩
end Go.Proofs.YthpcbbkpjggjbaaGreatDoor
namespace Go.Proofs.YthpcbbkpjggjbaaGreatDoor
open Go.RowKit Go.ChangeShapes Go.WideShapes Go.Deep Go.Joins
set_option maxRecDepth 20000
section
variable {H : Type} {enc : TypeId × Value → H} {w : World} {base : Nat} {spare : Nat → Bool} {held : Bool}
theorem open_rw {α : Type} {k : Nat} {R : World → α → List Value → Prop} {T E : TypeId} (hu : Tryz.prog.underlying T = some (.slice E)) (hk : Tryz.prog.cellsOf E = k) (hk0 : 0 < k)
    {q : α → DataW H → Prop} (ho : ∀ n cs (x : DataW H × List MemPlace), cs.length = k → DataW.trod enc Tryz.prog w base spare held n E cs = some x → (∀ y ∈ x.2, y.block < w.heap.size) → ∃ t, R w t cs ∧ q t x.1)
    {fuel : Nat} {sa : Option Addr} {len cap : Nat} {x : DataW H × List MemPlace} (h : DataW.trod enc Tryz.prog w base spare held fuel T [.slice sa len cap] = some x) (hlt : ∀ y ∈ x.2, y.block < w.heap.size) :
    ∃ l : List α, Rw k R w (.slice sa len cap) l ∧ len ≤ cap ∧ cap ≤ 9223372036854775807 ∧ (l = [] ∨ ∃ elems sp, x.1 = .slice elems sp ∧ l.length = elems.length ∧ ∀ t ∈ l, ∃ d ∈ elems, q t d) := by
  rcases open_slice hu h with ⟨hcs, hx⟩ | ⟨a, len', cap', m, n, D, Pl, hcs, _, hl, hm, hmm, hx, hall⟩
  · simp at hcs
    obtain ⟨rfl, rfl, rfl⟩ := hcs
    exact ⟨[], Rw.nil _ _, Nat.le_refl _, by omega, .inl rfl⟩
  · simp at hcs
    obtain ⟨rfl, rfl, rfl⟩ := hcs
    have hlm : len ≤ m := by rw [hmm]; split <;> omega
    rw [hk] at hall
    subst hx
    obtain ⟨L, hL, hT⟩ := choose_row (q := fun i t => ∃ cs, w.cells? base (a.add (i * k)) k = some cs ∧ R w t cs ∧ q t (D i)) len (fun i hi => by
      obtain ⟨cs', h1, h2⟩ := hall i (by omega)
      obtain ⟨_, hlen, _⟩ := World.cells?_some h1
      obtain ⟨t, h3⟩ := ho _ _ _ hlen h2 fun y hy => hlt y (List.mem_append_right _ (List.mem_flatMap.2 ⟨i, List.mem_range.2 (by omega), hy⟩))
      exact ⟨t, cs', h1, h3⟩)
    have hm' : cap ≤ 9223372036854775807 := by unfold maxLen at hm; omega
    refine ⟨L, ?_, hl, hm', .inr ⟨_, _, rfl, by simp [hL], fun t ht => ?_⟩⟩
    rotate_left
    · obtain ⟨i, hi, rfl⟩ := List.getElem_of_mem ht
      obtain ⟨_, _, _, h3⟩ := hT i _ (List.getElem?_eq_getElem hi)
      exact ⟨D i, List.mem_map_of_mem (List.mem_range.2 (by omega)), h3⟩
    by_cases hc0 : len = 0
    · subst hc0
      exact ⟨.inl ⟨⟨_, _, rfl⟩, List.length_eq_zero_iff.1 hL⟩⟩
    · have hcell : ∀ j t, L[j]? = some t → ∃ cs : List Value, cs.length = k ∧ R w t cs ∧ ∀ r v, cs[r]? = some v → w.cell? (a.add (j * k + r)) = some v := fun j t hj => by
        obtain ⟨cs, h1, h2, _⟩ := hT j t hj
        obtain ⟨_, hlen, hc⟩ := World.cells?_some h1
        refine ⟨cs, hlen, h2, fun r v hv => ?_⟩
        have hr : r < k := by
          have := (List.getElem?_eq_some_iff.1 hv).1
          omega
        have := hc r hr
        rw [add_add, hv] at this
        exact this
      obtain ⟨b, off, spot⟩ := a
      have hspot : spot = none := by
        obtain ⟨cs, c1, _, c3⟩ := hcell 0 _ (List.getElem?_eq_getElem (by omega))
        have h0 : cs[0]? = some (cs[0]'(by omega)) := List.getElem?_eq_getElem _
        simpa [Addr.add] using World.cell?_spot (c3 0 _ h0)
      subst hspot
      have hpos : 0 < m * k := Nat.mul_pos (by omega) hk0
      have hbW : b < w.heap.size := hlt (.cell b off) (List.mem_append_left _ (MemPlace.mem_row.2 ⟨0, by rw [hk]; exact hpos, by simp⟩))
      refine ⟨.inr ⟨b, off, cap, by rw [hL], by omega, hbW, fun j t hj => ?_⟩⟩
      obtain ⟨cs, c1, c2, c3⟩ := hcell j t hj
      refine ⟨cs, c1, c2, fun r u hu => ?_⟩
      have e := c3 r u hu
      rw [add_plain] at e
      rw [Nat.add_assoc]
      exact e
end
end Go.Proofs.YthpcbbkpjggjbaaGreatDoor
namespace Go.Proofs.YthpcbbkpjggjbaaGreatDoor
open Go.RowKit Go.ChangeShapes Go.WideShapes Go.Deep Go.Joins
set_option maxRecDepth 20000
section
variable {H : Type} {enc : TypeId × Value → H} {w : World} {base : Nat} {spare : Nat → Bool} {held : Bool}
theorem wk_struct5 {P : Program} {t : TypeId} {f0 f1 f2 f3 f4 : Field} {fuel : Nat} {cs : List Value} {x : DataW H × List MemPlace} (ht : P.underlying t = some (.struct #[f0, f1, f2, f3, f4])) (h : DataW.trod enc P w base spare held fuel t cs = some x) :
    ∃ y0 y1 y2 y3 y4 n, x = (.agg [y0.1, y1.1, y2.1, y3.1, y4.1], y0.2 ++ (y1.2 ++ (y2.2 ++ (y3.2 ++ y4.2)))) ∧ cs.length = P.cellsOf t ∧ DataW.trod enc P w base spare held n f0.type ((cs.drop f0.offset).take (P.cellsOf f0.type)) = some y0 ∧
      DataW.trod enc P w base spare held n f1.type ((cs.drop f1.offset).take (P.cellsOf f1.type)) = some y1 ∧ DataW.trod enc P w base spare held n f2.type ((cs.drop f2.offset).take (P.cellsOf f2.type)) = some y2 ∧
      DataW.trod enc P w base spare held n f3.type ((cs.drop f3.offset).take (P.cellsOf f3.type)) = some y3 ∧ DataW.trod enc P w base spare held n f4.type ((cs.drop f4.offset).take (P.cellsOf f4.type)) = some y4 := by
  obtain ⟨xs, n, _, rfl, hl, hlen, hf⟩ := DataW.trod_struct ht h
  match xs, hlen with
  | [y0, y1, y2, y3, y4], _ => exact ⟨y0, y1, y2, y3, y4, n, by simp, hl, by simpa using hf 0 f0 rfl, by simpa using hf 1 f1 rfl, by simpa using hf 2 f2 rfl, by simpa using hf 3 f3 rfl, by simpa using hf 4 f4 rfl⟩
def itD (H : Type) (x : Im) : DataW H := .agg [.lit (.string x.path.data.toList), .lit (.int .i64 x.kind), .lit (.int .i64 x.mode), .lit (.int .i64 x.time), .lit (.string x.bytes.data.toList)]
theorem it_fields : ∃ f0 f1 f2 f3 f4, Tryz.prog.underlying 27 = some (.struct #[f0, f1, f2, f3, f4]) ∧ f0.type = 9 ∧ f0.offset = 0 ∧ f1.type = 3 ∧ f1.offset = 1 ∧ f2.type = 3 ∧ f2.offset = 2 ∧ f3.type = 3 ∧ f3.offset = 3 ∧ f4.type = 9 ∧ f4.offset = 4 :=
  ⟨_, _, _, _, _, Tryz.underlying27, rfl, rfl, rfl, rfl, rfl, rfl, rfl, rfl, rfl, rfl⟩
theorem ce_it : Tryz.prog.cellsOf 27 = 5 := by kernel_rfl
def ImIn (x : Im) : Prop := (Lit.int .i64 x.kind).wf = true ∧ (Lit.int .i64 x.mode).wf = true ∧ (Lit.int .i64 x.time).wf = true
theorem open_item {n : Nat} {cs : List Value} {x : DataW H × List MemPlace} (hc : cs.length = 5) (h : DataW.trod enc Tryz.prog w base spare held n 27 cs = some x) : ∃ t : Im, (cs = imC t ∧ ImIn t) ∧ x.1 = itD H t := by
  obtain ⟨f0, f1, f2, f3, f4, hu, t0, o0, t1, o1, t2, o2, t3, o3, t4, o4⟩ := it_fields
  obtain ⟨y0, y1, y2, y3, y4, m, hx, _, g0, g1, g2, g3, g4⟩ := wk_struct5 hu h
  have ks : Tryz.prog.cellsOf 9 = 1 := by kernel_rfl
  match cs, hc with
  | [v0, v1, v2, v3, v4], _ =>
    simp only [t0, o0, t1, o1, ce_int, t2, o2, t3, o3, t4, o4, ks] at g0 g1 g2 g3 g4
    obtain ⟨b0, c0, x0, s0⟩ := DataW.trod_string Tryz.underlying9 g0
    obtain ⟨i1, c1, x1, w1⟩ := DataW.trod_int Tryz.underlying3 g1
    obtain ⟨i2, c2, x2, w2⟩ := DataW.trod_int Tryz.underlying3 g2
    obtain ⟨i3, c3, x3, w3⟩ := DataW.trod_int Tryz.underlying3 g3
    obtain ⟨b4, c4, x4, s4⟩ := DataW.trod_string Tryz.underlying9 g4
    obtain rfl : v0 = .string b0 := by simpa using c0
    obtain rfl : v1 = .int .i64 i1 := by simpa using c1
    obtain rfl : v2 = .int .i64 i2 := by simpa using c2
    obtain rfl : v3 = .int .i64 i3 := by simpa using c3
    obtain rfl : v4 = .string b4 := by simpa using c4
    exact ⟨⟨b0, i1, i2, i3, b4⟩, ⟨rfl, w1, w2, w3⟩, by rw [hx, x0, x1, x2, x3, x4]; rfl⟩
theorem open_items {fuel : Nat} {sa : Option Addr} {len cap : Nat} {x : DataW H × List MemPlace} (h : DataW.trod enc Tryz.prog w base spare held fuel 22 [.slice sa len cap] = some x) (hlt : ∀ y ∈ x.2, y.block < w.heap.size) :
    ∃ l : List Im, Ims w (.slice sa len cap) l ∧ (∀ t ∈ l, ImIn t) ∧ (l = [] ∨ ∃ elems sp, x.1 = .slice elems sp ∧ l.length = elems.length ∧ ∀ t ∈ l, itD H t ∈ elems) := by
  obtain ⟨l, hl, h1, h2, h3⟩ := open_rw (R := fun _ (t : Im) c => c = imC t ∧ ImIn t) (q := fun t d => d = itD H t) Tryz.underlying22 ce_it (by omega) (fun n cs x hc hx _ => by
    obtain ⟨t, a, b⟩ := open_item hc hx
    exact ⟨t, a, b⟩) h hlt
  have hin : ∀ t ∈ l, ImIn t := by
    obtain ⟨hat⟩ := hl
    rcases hat with ⟨_, hn⟩ | ⟨bk, o, cp, _, _, _, hc⟩
    · rw [hn]; exact fun t ht => absurd ht List.not_mem_nil
    · intro t ht
      obtain ⟨j, hj, rfl⟩ := List.getElem_of_mem ht
      obtain ⟨c, _, ⟨_, q⟩, _⟩ := hc j _ (List.getElem?_eq_getElem hj)
      exact q
  refine ⟨l, ?_, hin, h3.imp id fun ⟨elems, sp, a, b, c⟩ => ⟨elems, sp, a, b, fun t ht => ?_⟩⟩
  · obtain ⟨hat⟩ := hl
    rcases hat with ⟨⟨a, c, e⟩, hn⟩ | ⟨bk, o, cp, e, hle, hbk, hc⟩
    · cases e
      exact ⟨.inl ⟨⟨_, _, rfl⟩, hn⟩, _, _, _, rfl, h1, h2⟩
    · cases e
      refine ⟨.inr ⟨bk, o, cap, rfl, hbk, fun j t hj r u hu => ?_⟩, _, _, _, rfl, h1, h2⟩
      obtain ⟨cs, _, ⟨rfl, _⟩, q⟩ := hc j t hj
      exact q r u hu
  · obtain ⟨d, hd, rfl⟩ := c t ht
    exact hd
theorem weights_all {P : Program} {e : TypeId} : ∀ {elems : List (DataW H)} {d : DataW H}, d ∈ elems → ∀ n ∈ d.weights P e, n ∈ DataW.weightsAll P e elems
  | [], d, h, _, _ => absurd h List.not_mem_nil
  | x :: l, d, h, n, hn => by
    rw [DataW.weightsAll, List.mem_append]
    rcases List.mem_cons.1 h with rfl | h
    · exact .inl hn
    · exact .inr (weights_all h n hn)
theorem sized_items {ts : List TypeId} {ds : List (DataW H)} (h : (DataW.weightsEach Tryz.prog ts ds).all (· ≤ reachBytes) = true) {j : Nat} {l : List Im} {elems sp : List (DataW H)} (ht : ts[j]? = some 22) (hd : ds[j]? = some (.slice elems sp)) (hm : ∀ t ∈ l, itD H t ∈ elems) (hin : ∀ t ∈ l, ImIn t) : ∀ t ∈ l, t.Ok := by
  intro t htl
  obtain ⟨f0, f1, f2, f3, f4, hu, e0, _, e1, _, e2, _, e3, _, e4, _⟩ := it_fields
  have hall : ∀ n ∈ (itD H t).weights Tryz.prog 27, n ≤ reachBytes := fun n hn => by
    have := List.all_eq_true.1 h n (DataW.weights_mem_each ht hd n (by
      rw [DataW.weights, Tryz.underlying22]
      exact List.mem_cons_of_mem _ (List.mem_append_left _ (weights_all (hm t htl) n hn))))
    simpa using this
  have hp := hall t.path.data.toList.length (by simp [itD, DataW.weights, DataW.weightsEach, hu])
  have hb := hall t.bytes.data.toList.length (by simp [itD, DataW.weights, DataW.weightsEach, hu])
  simp only [reachBytes] at hp hb
  exact ⟨by rw [Lib.size_eq]; exact hp, by rw [Lib.size_eq]; exact hb, (hin t htl).2.2⟩
end
end Go.Proofs.YthpcbbkpjggjbaaGreatDoor
namespace Go.Proofs.YthpcbbkpjggjbaaGreatDoor
open Go.RowKit Go.ChangeShapes Go.WideShapes Go.Deep Go.Joins
set_option maxRecDepth 20000
section
variable {H : Type} {enc : TypeId × Value → H} {w : World} {base : Nat} {spare : Nat → Bool} {held : Bool}
def edD (H : Type) (x : Em) : DataW H := .agg [.lit (.string x.path.data.toList), .lit (.bool x.gone), itD H x.item]
theorem ed_fields : ∃ f0 f1 f2, Tryz.prog.underlying 30 = some (.struct #[f0, f1, f2]) ∧ f0.type = 9 ∧ f0.offset = 0 ∧ f1.type = 4 ∧ f1.offset = 1 ∧ f2.type = 27 ∧ f2.offset = 2 :=
  ⟨_, _, _, Tryz.underlying30, rfl, rfl, rfl, rfl, rfl, rfl⟩
theorem ce_ed : Tryz.prog.cellsOf 30 = 7 := by kernel_rfl
def EmIn (x : Em) : Prop := ImIn x.item
theorem open_edit {n : Nat} {cs : List Value} {x : DataW H × List MemPlace} (hc : cs.length = 7) (h : DataW.trod enc Tryz.prog w base spare held n 30 cs = some x) : ∃ t : Em, (cs = emC t ∧ EmIn t) ∧ x.1 = edD H t := by
  obtain ⟨f0, f1, f2, hu, t0, o0, t1, o1, t2, o2⟩ := ed_fields
  obtain ⟨y0, y1, y2, m, hx, _, g0, g1, g2⟩ := trod_struct3 hu h
  have ks : Tryz.prog.cellsOf 9 = 1 := by kernel_rfl
  have kb : Tryz.prog.cellsOf 4 = 1 := by kernel_rfl
  match cs, hc with
  | [v0, v1, v2, v3, v4, v5, v6], _ =>
    simp only [t0, o0, t1, o1, t2, o2, ks, kb, ce_it] at g0 g1 g2
    have g2 : DataW.trod enc Tryz.prog w base spare held m 27 [v2, v3, v4, v5, v6] = some y2 := g2
    obtain ⟨b0, c0, x0, s0⟩ := DataW.trod_string Tryz.underlying9 g0
    obtain ⟨i1, c1, x1⟩ := DataW.trod_bool Tryz.underlying4 g1
    obtain ⟨t, ⟨c2, hin⟩, x2⟩ := open_item rfl g2
    obtain rfl : v0 = .string b0 := by simpa using c0
    obtain rfl : v1 = .bool i1 := by simpa using c1
    refine ⟨⟨b0, i1, t⟩, ⟨?_, hin⟩, ?_⟩
    · simp only [imC, List.cons.injEq, and_true] at c2
      obtain ⟨rfl, rfl, rfl, rfl, rfl⟩ := c2
      rfl
    · rw [hx, x0, x1, x2]; rfl
theorem open_eds {fuel : Nat} {sa : Option Addr} {len cap : Nat} {x : DataW H × List MemPlace} (h : DataW.trod enc Tryz.prog w base spare held fuel 23 [.slice sa len cap] = some x) (hlt : ∀ y ∈ x.2, y.block < w.heap.size) :
    ∃ l : List Em, Eds w (.slice sa len cap) l ∧ (∀ t ∈ l, EmIn t) ∧ (l = [] ∨ ∃ elems sp, x.1 = .slice elems sp ∧ l.length = elems.length ∧ ∀ t ∈ l, edD H t ∈ elems) := by
  obtain ⟨l, hl, h1, h2, h3⟩ := open_rw (R := fun _ (t : Em) c => c = emC t ∧ EmIn t) (q := fun t d => d = edD H t) Tryz.underlying23 ce_ed (by omega) (fun n cs x hc hx _ => by
    obtain ⟨t, a, b⟩ := open_edit hc hx
    exact ⟨t, a, b⟩) h hlt
  have hin : ∀ t ∈ l, EmIn t := by
    obtain ⟨hat⟩ := hl
    rcases hat with ⟨_, hn⟩ | ⟨bk, o, cp, _, _, _, hc⟩
    · rw [hn]; exact fun t ht => absurd ht List.not_mem_nil
    · intro t ht
      obtain ⟨j, hj, rfl⟩ := List.getElem_of_mem ht
      obtain ⟨c, _, ⟨_, q⟩, _⟩ := hc j _ (List.getElem?_eq_getElem hj)
      exact q
  refine ⟨l, ?_, hin, h3.imp id fun ⟨elems, sp, a, b, c⟩ => ⟨elems, sp, a, b, fun t ht => ?_⟩⟩
  · obtain ⟨hat⟩ := hl
    rcases hat with ⟨⟨a, c, e⟩, hn⟩ | ⟨bk, o, cp, e, hle, hbk, hc⟩
    · cases e
      exact ⟨.inl ⟨⟨_, _, rfl⟩, hn⟩, _, _, _, rfl, h1, h2⟩
    · cases e
      refine ⟨.inr ⟨bk, o, cap, rfl, hbk, fun j t hj r u hu => ?_⟩, _, _, _, rfl, h1, h2⟩
      obtain ⟨cs, _, ⟨rfl, _⟩, q⟩ := hc j t hj
      exact q r u hu
  · obtain ⟨d, hd, rfl⟩ := c t ht
    exact hd
theorem sized_eds {ts : List TypeId} {ds : List (DataW H)} (h : (DataW.weightsEach Tryz.prog ts ds).all (· ≤ reachBytes) = true) {j : Nat} {l : List Em} {elems sp : List (DataW H)} (ht : ts[j]? = some 23) (hd : ds[j]? = some (.slice elems sp)) (hm : ∀ t ∈ l, edD H t ∈ elems) (hin : ∀ t ∈ l, EmIn t) : ∀ t ∈ l, t.Ok := by
  intro t htl
  obtain ⟨f0, f1, f2, hu, e0, _, e1, _, e2, _⟩ := ed_fields
  obtain ⟨g0, g1, g2, g3, g4, hv, k0, _, k1, _, k2, _, k3, _, k4, _⟩ := it_fields
  have hall : ∀ n ∈ (edD H t).weights Tryz.prog 30, n ≤ reachBytes := fun n hn => by
    have := List.all_eq_true.1 h n (DataW.weights_mem_each ht hd n (by
      rw [DataW.weights, Tryz.underlying23]
      exact List.mem_cons_of_mem _ (List.mem_append_left _ (weights_all (hm t htl) n hn))))
    simpa using this
  have hp := hall t.path.data.toList.length (by simp [edD, itD, DataW.weights, DataW.weightsEach, hu])
  have hi := hall t.item.path.data.toList.length (by simp [edD, itD, DataW.weights, DataW.weightsEach, hu, e2, hv])
  have hb := hall t.item.bytes.data.toList.length (by simp [edD, itD, DataW.weights, DataW.weightsEach, hu, e2, hv])
  simp only [reachBytes] at hp hi hb
  exact ⟨by rw [Lib.size_eq]; exact hp, ⟨by rw [Lib.size_eq]; exact hi, by rw [Lib.size_eq]; exact hb, (hin t htl).2.2⟩⟩
end
end Go.Proofs.YthpcbbkpjggjbaaGreatDoor
namespace Go.Proofs.YthpcbbkpjggjbaaGreatDoor
open Go.RowKit
theorem first_laid : Rows.laid_unicode_utf8_first = Lib.firstData := by kernel_rfl
theorem accept_laid : (Rows.laid_unicode_utf8_acceptRanges : DataW Unit) = Lib.acceptData := by kernel_rfl
theorem laid_plain {P : Program} {l : List (String × DataW Unit)} {W : World} (h : laidMetH P l W) (hp : (l.filter fun x => x.2.handleName?.isSome) = []) : laidMet P l W := by
  unfold laidMetH at h
  rw [hp] at h
  exact h
theorem tabs_of {W : World} (hL : laidMetH Tryz.prog Rows.deltaOwnRow.laid W) : Tabs W := by
  have hM := laid_plain hL (by kernel_rfl)
  refine utf8Tabs_of_readsT (P := Tryz.prog) (ρ := Tryz.laysValid_ren) (U8Types.of196 Tryz.laysValid) ⟨by kernel_rfl, by kernel_rfl, by kernel_rfl, by kernel_rfl, by kernel_rfl, by kernel_rfl, by kernel_rfl⟩ ?_ ?_
  · rw [← first_laid]
    exact Lib.laidMet.reads hM (by simp [Rows.deltaOwnRow])
  · rw [← accept_laid]
    exact Lib.laidMet.reads hM (by simp [Rows.deltaOwnRow])
end Go.Proofs.YthpcbbkpjggjbaaGreatDoor
namespace Go.Proofs.YthpcbbkpjggjbaaGreatDoor.deltaOwn
open Go.ChangeShapes Go.WideShapes Go.ChangeAt Go.RowKit
open Go.ChangeMaps (open_string shut_string)
set_option linter.unusedVariables false
theorem own : ownKnob Tryz.prog.godebug = none := by kernel_rfl
set_option maxRecDepth 100000 in
theorem contract (H : Type) (enc : TypeId × Value → H) (F : Stop.Interp) (W : World) (base : Nat) (args : Array Value) (ds gs : List (DataW H)) (before : List MemPlace)
    (hval0 : ∀ (j : Nat) t v, Tryz.f3.params[j]? = some t → args[j]? = some v → Value.okWide Tryz.prog W .any base t v)
    (hW : DataW.Whole enc Tryz.prog Tryz.f3.params.toList Rows.deltaOwnSpec.vars false W args.toList ds gs before)
    (hsz0 : (DataW.weightsEach Tryz.prog (Tryz.f3.params.toList ++ Rows.deltaOwnSpec.plain.varTypes Tryz.prog) (ds ++ gs)).all (· ≤ reachBytes) = true) (hT : Tabs W) :
    Calls Tryz.prog 3 args W fun e W' => ∃ v, e = .returned v ∧ ((OpenSpec.ofChange Rows.deltaOwnSpec).at F).post enc Tryz.prog Tryz.f3 false true false false W args v W' := by
  have hval : ∀ (j : Nat) t v, Tryz.f3.params[j]? = some t → args[j]? = some v → Value.okWide Tryz.prog W .any base t v := hval0
  have hW' := hW
  obtain ⟨p, q, hA0, hV, rfl, hfz, hnd⟩ := hW
  have hA : DataW.TrodAll enc Tryz.prog W 0 (fun _ => true) true Tryz.f3.params.toList args.toList ds p := hA0
  have hsz : (DataW.weightsEach Tryz.prog (Tryz.f3.params.toList ++ Rows.deltaOwnSpec.plain.varTypes Tryz.prog) (ds ++ gs)).all (· ≤ reachBytes) = true := hsz0
  rw [Tryz.params3] at hA hval hsz
  obtain ⟨v0, vs0, d0, ds0, p0, q0, hargs, rfl, rfl, h0, r0⟩ := trodAll_cons hA
  obtain ⟨v1, vs1, d1, ds1, p1, q1, rfl, rfl, rfl, h1, r1⟩ := trodAll_cons r0
  obtain ⟨v2, vs2, d2, ds2, p2, q2, rfl, rfl, rfl, h2, r2⟩ := trodAll_cons r1
  obtain ⟨rfl, rfl, rfl⟩ := trodAll_nil r2
  obtain rfl : args = #[v0, v1, v2] := by cases args; simp_all
  obtain ⟨rfl, rfl⟩ := trodVars_none hV
  obtain ⟨sa0, len0, cap0, rfl⟩ := okWide_slice Tryz.underlying22 (hval 0 22 v0 rfl rfl)
  have h0k := h0
  obtain ⟨fuel0, hf0⟩ := h0
  obtain ⟨sa1, len1, cap1, rfl⟩ := okWide_slice Tryz.underlying22 (hval 1 22 v1 rfl rfl)
  have h1k := h1
  obtain ⟨fuel1, hf1⟩ := h1
  obtain ⟨sa2, len2, cap2, rfl⟩ := okWide_slice Tryz.underlying23 (hval 2 23 v2 rfl rfl)
  have h2k := h2
  obtain ⟨fuel2, hf2⟩ := h2
  have hlts : ∀ x ∈ p0 ++ p1 ++ p2, x.block < W.heap.size := fun x hx => Nat.lt_of_lt_of_eq (hW'.lt x (by simpa using hx)) (by simp)
  have hlt0 : ∀ x ∈ p0, x.block < W.heap.size := fun x hx => hlts x (by simp [hx])
  have hargs0 : ∀ (W' : World), Below W.heap.size W W' → DataW.Trod enc Tryz.prog W' 0 (fun b => decide (b < W.heap.size)) true 22 (.slice sa0 len0 cap0) d0 p0 :=
    fun W' hn => Below.trod (by kernel_rfl) (by kernel_rfl) (of_decide_eq_true (by kernel_rfl)) h0k hn hlt0
  obtain ⟨l0, hl0, hin0, hsize0⟩ := open_items hf0 hlt0
  have z0 : l0.length * 56 ≤ 140737488351232 := by
    rcases hsize0 with h | ⟨elems, sp, h, h2, _⟩
    · rw [h]; simp
    · have h : d0 = .slice elems sp := h
      subst h
      have := sized_slice hsz (j := 0) (t := 22) rfl rfl Tryz.underlying22
      have hb : Tryz.prog.bytesOf 27 = 56 := by kernel_rfl
      rw [hb] at this
      simp only [reachBytes] at this
      omega
  have f0 : ∀ x ∈ l0, x.Ok := by
    rcases hsize0 with h | ⟨elems, sp, h, _, hm⟩
    · rw [h]; exact fun x hx => (List.not_mem_nil hx).elim
    · have h : d0 = .slice elems sp := h
      subst h
      exact sized_items hsz (j := 0) rfl rfl hm hin0
  have hlt1 : ∀ x ∈ p1, x.block < W.heap.size := fun x hx => hlts x (by simp [hx])
  have hargs1 : ∀ (W' : World), Below W.heap.size W W' → DataW.Trod enc Tryz.prog W' 0 (fun b => decide (b < W.heap.size)) true 22 (.slice sa1 len1 cap1) d1 p1 :=
    fun W' hn => Below.trod (by kernel_rfl) (by kernel_rfl) (of_decide_eq_true (by kernel_rfl)) h1k hn hlt1
  obtain ⟨l1, hl1, hin1, hsize1⟩ := open_items hf1 hlt1
  have z1 : l1.length * 56 ≤ 140737488351232 := by
    rcases hsize1 with h | ⟨elems, sp, h, h2, _⟩
    · rw [h]; simp
    · have h : d1 = .slice elems sp := h
      subst h
      have := sized_slice hsz (j := 1) (t := 22) rfl rfl Tryz.underlying22
      have hb : Tryz.prog.bytesOf 27 = 56 := by kernel_rfl
      rw [hb] at this
      simp only [reachBytes] at this
      omega
  have f1 : ∀ x ∈ l1, x.Ok := by
    rcases hsize1 with h | ⟨elems, sp, h, _, hm⟩
    · rw [h]; exact fun x hx => (List.not_mem_nil hx).elim
    · have h : d1 = .slice elems sp := h
      subst h
      exact sized_items hsz (j := 1) rfl rfl hm hin1
  have hlt2 : ∀ x ∈ p2, x.block < W.heap.size := fun x hx => hlts x (by simp [hx])
  have hargs2 : ∀ (W' : World), Below W.heap.size W W' → DataW.Trod enc Tryz.prog W' 0 (fun b => decide (b < W.heap.size)) true 23 (.slice sa2 len2 cap2) d2 p2 :=
    fun W' hn => Below.trod (by kernel_rfl) (by kernel_rfl) (of_decide_eq_true (by kernel_rfl)) h2k hn hlt2
  obtain ⟨l2, hl2, hin2, hsize2⟩ := open_eds hf2 hlt2
  have z2 : l2.length * 80 ≤ 140737488351232 := by
    rcases hsize2 with h | ⟨elems, sp, h, h2, _⟩
    · rw [h]; simp
    · have h : d2 = .slice elems sp := h
      subst h
      have := sized_slice hsz (j := 2) (t := 23) rfl rfl Tryz.underlying23
      have hb : Tryz.prog.bytesOf 30 = 80 := by kernel_rfl
      rw [hb] at this
      simp only [reachBytes] at this
      omega
  have f2 : ∀ x ∈ l2, x.Ok := by
    rcases hsize2 with h | ⟨elems, sp, h, _, hm⟩
    · rw [h]; exact fun x hx => (List.not_mem_nil hx).elim
    · have h : d2 = .slice elems sp := h
      subst h
      exact sized_eds hsz (j := 2) rfl rfl hm hin2
  clear hA0 hval0 hsz hsz0
  refine (deltaOwn_walk _ l0 _ l1 _ l2 z0 f0 z1 f1 z2 f2 W hl0 hl1 hl2 hT).mono fun e W' ⟨he, bel⟩ => ?_
  subst he
  exact ⟨_, rfl, _, _, _, [], _, [], hW', trodAll_mk1 (shut_bool Tryz.underlying4 _), (trodAll_cons_mk (hargs0 _ bel) (trodAll_cons_mk (hargs1 _ bel) (trodAll_cons_mk (hargs2 _ bel) trodAll_mk0))), rfl, bel.frame _, fun h => by cases h⟩
theorem laid_world (os : Os) : ∃ w0 : World, w0.os = os ∧
    (w0.forCall (fun _ _ => 0) ⟨#[], #[Value.slice none 0 0, Value.slice none 0 0, Value.slice none 0 0], []⟩).variablesB Tryz.prog = true ∧
    ((w0.forCall (fun _ _ => 0) ⟨#[], #[Value.slice none 0 0, Value.slice none 0 0, Value.slice none 0 0], []⟩).heap.toList.drop Tryz.prog.globals.size).take ((begin Tryz.prog (fun _ _ => 0) default).world.heap.size - Tryz.prog.globals.size) =
      (begin Tryz.prog (fun _ _ => 0) default).world.heap.toList.drop Tryz.prog.globals.size ∧
    Input.okWideB Tryz.prog (w0.forCall (fun _ _ => 0) ⟨#[], #[Value.slice none 0 0, Value.slice none 0 0, Value.slice none 0 0], []⟩) 3 ⟨#[], #[Value.slice none 0 0, Value.slice none 0 0, Value.slice none 0 0], []⟩ = true ∧
    laidMet Tryz.prog Rows.deltaOwnRow.laid (w0.forCall (fun _ _ => 0) ⟨#[], #[Value.slice none 0 0, Value.slice none 0 0, Value.slice none 0 0], []⟩).memory ∧
    ∀ (H : Type) (enc : TypeId × Value → H), ∃ places, DataW.whole enc Tryz.prog (w0.forCall (fun _ _ => 0) ⟨#[], #[Value.slice none 0 0, Value.slice none 0 0, Value.slice none 0 0], []⟩).memory Tryz.f3.params.toList Rows.deltaOwnSpec.vars false #[Value.slice none 0 0, Value.slice none 0 0, Value.slice none 0 0].toList 8 = some ([.nil, .nil, .nil], [], places) :=
  ⟨{ World.holding Tryz.prog os ⟨#[], #[], []⟩ with
      heap := ((World.holding Tryz.prog os ⟨#[], #[], []⟩).heap.modify 1 (fun o => match o with
        | .cells _ t frozen => .cells (Go.Pinned.utf8FirstZ.map fun (n : Nat) => Value.int .u8 (n : Int)).toArray t frozen
        | o => o)).modify 2 (fun o => match o with
        | .cells _ t frozen => .cells ([128, 191, 160, 191, 128, 159, 144, 191, 128, 143, 0, 0, 0, 0, 0, 0, 0, 0, 0, 0, 0, 0, 0, 0, 0, 0, 0, 0, 0, 0, 0, 0].map fun n => Value.int .u8 n).toArray t frozen
        | o => o) }, rfl, by kernel_rfl, by kernel_rfl, by kernel_rfl, laidMet_of_run' 8 (by kernel_rfl) (by kernel_rfl), fun _ _ => ⟨[], by kernel_rfl⟩⟩
set_option maxRecDepth 100000 in
theorem lifted (os : Os) (started : os.Started) (H : Type) (enc : TypeId × Value → H) (F : Stop.Interp) :
    ReturnsInHanded {} Tryz.checked os 3 .any ((OpenSpec.ofChange Rows.deltaOwnSpec).preRow enc Tryz.prog Tryz.f3 Rows.deltaOwnRow.domain false Rows.deltaOwnRow.laid) (((OpenSpec.ofChange Rows.deltaOwnSpec).at F).post enc Tryz.prog Tryz.f3 false true false false) := by
  obtain ⟨w0, h1, h2, h3, h4, h5, h6⟩ := laid_world os
  obtain ⟨places, hx⟩ := h6 H enc
  refine returnsInHanded_of_row (C := Tryz.checked) (s := (OpenSpec.ofChange Rows.deltaOwnSpec)) own started (by kernel_rfl) Tryz.func3
    (witness_row_at (enc := enc) (C := Tryz.checked) false w0 #[Value.slice none 0 0, Value.slice none 0 0, Value.slice none 0 0] h1 h2 h3 h4
      (OpenSpec.preRow_of_cond 8 hx (by kernel_rfl) (fun k hk => by cases hk) (by kernel_rfl) h5)) ?_
  intro W base args ds gs before hval hW _ hk hsz hL _ _
  exact contract H enc F W base args ds gs before hval hW hsz (tabs_of hL)
theorem said : Rows.deltaOwnRow.holds Tryz.pinned (OpenSpec.ofChange Rows.deltaOwnSpec) :=
  OpenClaim.holds_of_cond 3 Tryz.f3 rfl rfl rfl rfl rfl rfl rfl ⟨rfl, rfl, rfl, rfl, rfl⟩ rfl rfl rfl rfl rfl (by kernel_rfl) Tryz.func3 (by kernel_rfl)
    (of_decide_eq_true (by kernel_rfl)) (by unfold Func.isWrapper; first | (rw [if_pos (by decide +kernel)]; kernel_rfl) | (rw [if_neg (by decide +kernel)]; exact ⟨rfl, rfl⟩))
    (fun os started H enc _ F => by rw [OpenClaim.pre_eq_preRow]; exact lifted os started H enc F)
theorem plain (f : FuncId) (fn : Func) (hf : Tryz.pinned.checked.prog.funcNamed Rows.deltaOwnRow.func = some f) (hfn : Tryz.pinned.checked.prog.funcs[f]? = some fn) :
    false = Tryz.pinned.checked.prog.looks [] ∧ ∀ (j : Nat) t, fn.params[j]? = some t → Tryz.pinned.checked.prog.wantsStandIn t = false := by
  obtain rfl : f = 3 := Option.some.inj ((show Tryz.prog.funcNamed Rows.deltaOwnRow.func = some 3 by kernel_rfl).symm.trans hf) |>.symm
  obtain rfl : fn = Tryz.f3 := (Option.some.inj (Tryz.func3.symm.trans hfn)).symm
  refine ⟨by kernel_rfl, fun j t ht => ?_⟩
  rw [Tryz.params3] at ht
  have hm : t ∈ ([22, 22, 23] : List TypeId) := Array.mem_def.1 (Array.mem_of_getElem? ht)
  exact (show ∀ t ∈ ([22, 22, 23] : List TypeId), Tryz.prog.wantsStandIn t = false by decide +kernel) t hm
end Go.Proofs.YthpcbbkpjggjbaaGreatDoor.deltaOwn
namespace Go.Proofs.YthpcbbkpjggjbaaGreatDoor
theorem deltaOwn_card : Rows.DeltaOwnCardSaid :=
  Claim7.holds_tied_plain_at .later [] _ _ _ _ deltaOwn.said (fun _ h => by cases h) (by kernel_rfl) (fun _ h => by cases h) deltaOwn_row_tie rfl ⟨rfl, rfl⟩ (by kernel_rfl) rfl deltaOwn.plain (by kernel_rfl)
end Go.Proofs.YthpcbbkpjggjbaaGreatDoor
