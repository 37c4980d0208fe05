/-
  P48 (no Go in it): fine blobs, whatever their order, with all of a planted world's among them: what is reaped is the world.
  P48 (no Go in it): blobs that may come more than once: what lumref's Reap goes by, and that it is what is reaped of each once.
  P48: what lumref's blobOf and reapFile answer.
  P48: what lumref's reapFile answers.
  lumref: what TreeRead answers, with the rows that it makes told by their blocks' types.
  slices.Clone over texts; a text more behind it.
  slices.Equal over texts.
  P37: what checkAll of package names answers: the first error of names.
  The library's contracts at this program: strings_Join, strings_Join_none (laid by the guide's own tools, written out in plain words).
  P37: what Join of package names answers.
  P48: what lumref's reapDir goes by: the rows that stay while items are told; a path with a name more.
  P48: what lumref's reapDir answers.
  P48: what lumref's Reap answers.
  Two items compared; slices.Equal over two rows of items: are they the same?
  The walk of lumlaw.WalkReaps: it returns true.
-/
import Derived.Test.YtimdioacmojkeaaDoorGD
import Derived.Test.YtimdioacmojkeaaDoorGC
import Derived.Test.YtimdioacmojkeaaDoorGB
import Derived.WalkKit
import Derived.OwnWalk
import Derived.Laws.AppendOwn
import Derived.Lib.Strings
import Derived.Lib.SliceRun
import Derived.WalkSpells
import Derived.WalkLawsBesides
import Derived.Test.YtimdioacmojkeaaDoorGA
import Derived.Shelf.Strings.OnBuilder
import Derived.Test.YtimdioacmojkeaaDoorProg
import Derived.Maps.AppendAt
import Derived.BigQuiet

namespace Go.Proofs.YtimdioacmojkeaaDoor
namespace Wk

theorem Fine.sub {l l' : List Pk.Bl} (h : Fine l) (hs : ∀ x ∈ l', x ∈ l) : Fine l' := ⟨fun b hb => h.ok b (hs b hb), fun a ha b hb => h.one a (hs a ha) b (hs b hb)⟩

theorem gath_fine : ∀ (r acc : List Pk.Bl), Fine (acc ++ r) → (gath r acc).2 = 0
  | [], _, _ => rfl
  | b :: r, acc, h => by
    have hb : Pk.bErr b = 0 := h.ok b (by simp)
    have hi : (into acc b).2.2 = 0 ∧ ∀ x ∈ (into acc b).1, x ∈ acc ∨ x = b := by
      unfold into
      rw [if_neg (by simp [hb])]
      cases hf : acc.find? (fun x => Pk.bid x == Pk.bid b) with
      | none => exact ⟨rfl, fun x hx => by simpa using hx⟩
      | some x =>
        have hx : Pk.bid x = Pk.bid b := by simpa using List.find?_some hf
        have hm := List.mem_of_find?_eq_some hf
        have e : x = b := h.one x (List.mem_append_left _ hm) b (by simp) hx
        simp only [e, if_true]
        exact ⟨trivial, fun y hy => .inl hy⟩
    rw [gath, if_neg (by simp [hi.1])]
    refine gath_fine r _ (h.sub fun x hx => ?_)
    rcases List.mem_append.1 hx with k | k
    · rcases hi.2 x k with q | q
      · exact List.mem_append_left _ q
      · rw [q]; simp
    · exact List.mem_append_right _ (List.mem_cons_of_mem _ k)

theorem reap_back {w : List It} {l : List Pk.Bl} {id : Bs} (hb : ∀ L, Fine L → (∀ x ∈ l, x ∈ L) → reapDir L 9 id [] [] = (w, 0)) {l' : List Pk.Bl} (hF : Fine l') (hn : l'.length ≤ 1000) (hs : ∀ x ∈ l, x ∈ l') : reapP l' id = (w, 0) := by
  have hg : (gath l' []).2 = 0 := gath_fine l' [] (by simpa using hF)
  obtain ⟨L, hL⟩ : ∃ L, gath l' [] = (L, 0) := ⟨_, Prod.ext rfl hg⟩
  have hp : heapP l' = (L, 0) := by rw [heapP, if_neg (by omega), hL]
  obtain ⟨_, h2, _, _, h5⟩ := gath_ok l' [] L hL
  rw [reapP, hp]
  simp only [ne_eq, not_true, if_false]
  exact hb L (h5 ⟨fun _ q => absurd q List.not_mem_nil, fun _ q => absurd q List.not_mem_nil⟩) fun x hx => h2 x (hs x hx)

theorem reap_large {l' : List Pk.Bl} (h : 1000 < l'.length) (id : Bs) : reapP l' id = ([], 2) := by
  have hp : heapP l' = ([], 2) := by rw [heapP, if_pos h]
  rw [reapP, hp]
  simp

end Wk

end Go.Proofs.YtimdioacmojkeaaDoor

namespace Go.Proofs.YtimdioacmojkeaaDoor
namespace Wk
open Nn (Name)

theorem find_same {l L : List Pk.Bl} (hF : Fine l) (hs : ∀ x, x ∈ L ↔ x ∈ l) (id : Bs) : L.find? (fun b => Pk.bid b == id) = l.find? (fun b => Pk.bid b == id) := by
  cases hf : l.find? (fun b => Pk.bid b == id) with
  | none =>
    rw [List.find?_eq_none] at hf ⊢
    exact fun x hx => hf x ((hs x).1 hx)
  | some x =>
    have hx : Pk.bid x = id := by simpa using List.find?_some hf
    have hm := List.mem_of_find?_eq_some hf
    cases hg : L.find? (fun b => Pk.bid b == id) with
    | none =>
      have := List.find?_eq_none.1 hg x ((hs x).2 hm)
      simp [hx] at this
    | some y =>
      have hy : Pk.bid y = id := by simpa using List.find?_some hg
      rw [hF.one y ((hs y).1 (List.mem_of_find?_eq_some hg)) x hm (hy.trans hx.symm)]

theorem blobOf_same {l L : List Pk.Bl} (hF : Fine l) (hs : ∀ x, x ∈ L ↔ x ∈ l) (id : Bs) (k : Int) : blobOf L id k = blobOf l id k := by
  unfold blobOf
  rw [find_same hF hs]

theorem reapFile_same {l L : List Pk.Bl} (h : ∀ id k, blobOf L id k = blobOf l id k) (size : Int) : ∀ (ps : List Bs) (out : Bs), reapFile L size ps out = reapFile l size ps out
  | [], _ => rfl
  | id :: r, out => by
    rw [reapFile, reapFile, h, reapFile_same h size r]

theorem reapNodes_same {l L : List Pk.Bl} (h : ∀ id k, blobOf L id k = blobOf l id k) {sub sub' : Bs → List Name → List It → List It × Int} (hs : ∀ id p w, sub id p w = sub' id p w) (path : List Name) : ∀ (ns : List Td.Nd) (w : List It), reapNodes L sub path ns w = reapNodes l sub' path ns w
  | [], _ => rfl
  | n :: r, w => by
    rw [reapNodes, reapNodes]
    simp only [reapFile_same h, hs, reapNodes_same h hs path r]

theorem reapDir_same {l L : List Pk.Bl} (h : ∀ id k, blobOf L id k = blobOf l id k) : ∀ (k : Nat) (id : Bs) (p : List Name) (w : List It), reapDir L k id p w = reapDir l k id p w
  | 0, _, _, _ => rfl
  | k + 1, id, p, w => by
    rw [reapDir, reapDir, h]
    simp only [reapNodes_same h (reapDir_same h k)]

/-- the first error of blobs behind those that came -/
def clF : List Pk.Bl → List Pk.Bl → Int
  | _, [] => 0
  | done, b :: r => if Pk.bErr b ≠ 0 then Pk.bErr b else if done.any (fun x => (Pk.bid x == Pk.bid b) && decide (x ≠ b)) = true then 11 else clF (done ++ [b]) r

theorem gath_clF : ∀ (r done acc : List Pk.Bl), Fine acc → (∀ x, x ∈ acc ↔ x ∈ done) → (gath r acc).2 = clF done r
  | [], _, _, _, _ => rfl
  | b :: r, done, acc, hF, hs => by
    rw [gath, clF]
    by_cases hb : Pk.bErr b = 0
    · rw [if_neg (show ¬ Pk.bErr b ≠ 0 by simp [hb])]
      cases hf : acc.find? (fun x => Pk.bid x == Pk.bid b) with
      | none =>
        have hno : ∀ x ∈ acc, Pk.bid x ≠ Pk.bid b := fun x hx e => by
          have := List.find?_eq_none.1 hf x hx
          simp [e] at this
        have hany : ¬ done.any (fun x => (Pk.bid x == Pk.bid b) && decide (x ≠ b)) = true := by
          rw [List.any_eq_true]
          rintro ⟨x, hx, e⟩
          rw [Bool.and_eq_true, beq_iff_eq] at e
          exact hno x ((hs x).2 hx) e.1
        have hi : into acc b = (acc ++ [b], Pk.bid b, 0) := by unfold into; rw [if_neg (by simp [hb]), hf]
        rw [if_neg hany, hi]
        simp only [ne_eq, not_true, if_false]
        refine gath_clF r (done ++ [b]) (acc ++ [b]) ⟨fun x hx => ?_, fun x hx y hy e => ?_⟩ fun x => ?_
        · rcases List.mem_append.1 hx with k | k
          · exact hF.ok x k
          · rw [List.mem_singleton.1 k]; exact hb
        · rcases List.mem_append.1 hx with k | k
          · rcases List.mem_append.1 hy with j | j
            · exact hF.one x k y j e
            · rw [List.mem_singleton.1 j] at e; exact absurd e (hno x k)
          · rw [List.mem_singleton.1 k] at e ⊢
            rcases List.mem_append.1 hy with j | j
            · exact absurd e.symm (hno y j)
            · exact (List.mem_singleton.1 j).symm
        · rw [List.mem_append, List.mem_append, hs]
      | some x =>
        have hx : Pk.bid x = Pk.bid b := by simpa using List.find?_some hf
        have hm := List.mem_of_find?_eq_some hf
        by_cases e : x = b
        · subst e
          have hi : into acc x = (acc, Pk.bid x, 0) := by unfold into; rw [if_neg (by simp [hb]), hf]; simp
          have hany : ¬ done.any (fun y => (Pk.bid y == Pk.bid x) && decide (y ≠ x)) = true := by
            rw [List.any_eq_true]
            rintro ⟨y, hy, e⟩
            rw [Bool.and_eq_true, beq_iff_eq, decide_eq_true_eq] at e
            exact e.2 (hF.one y ((hs y).2 hy) x hm e.1)
          rw [if_neg hany, hi]
          simp only [ne_eq, not_true, if_false]
          refine gath_clF r (done ++ [x]) acc hF fun y => ?_
          rw [List.mem_append, List.mem_singleton, hs]
          constructor
          · exact .inl
          · rintro (k | k)
            · exact k
            · rw [k]; exact (hs x).1 hm
        · have hi : into acc b = (acc, Pk.bid b, 11) := by unfold into; rw [if_neg (by simp [hb]), hf]; simp [e]
          have hany : done.any (fun y => (Pk.bid y == Pk.bid b) && decide (y ≠ b)) = true := by
            rw [List.any_eq_true]
            exact ⟨x, (hs x).1 hm, by rw [Bool.and_eq_true, beq_iff_eq, decide_eq_true_eq]; exact ⟨hx, e⟩⟩
          rw [if_pos hany, hi]
          rfl
    · have hi : into acc b = (acc, [], Pk.bErr b) := by unfold into; rw [if_pos hb]
      rw [if_pos hb, hi]
      simp [hb]

/-- lumref's Reap -/
def reapL (l : List Pk.Bl) (root : Bs) : List It × Int := if 1000 < l.length then ([], 2) else if clF [] l ≠ 0 then ([], clF [] l) else reapDir l 9 root [] []

theorem reapL_eq (l : List Pk.Bl) (root : Bs) : reapL l root = reapP l root := by
  unfold reapL reapP heapP
  split
  · simp
  · have hF0 : Fine [] := ⟨fun _ q => absurd q List.not_mem_nil, fun _ q => absurd q List.not_mem_nil⟩
    have hg := gath_clF l [] [] hF0 fun x => Iff.rfl
    rw [hg]
    split
    · rfl
    · rename_i hc
      obtain ⟨L, hL⟩ : ∃ L, gath l [] = (L, 0) := ⟨_, Prod.ext rfl (by rw [hg]; exact Decidable.not_not.mp hc)⟩
      obtain ⟨_, h2, h3, _, h5⟩ := gath_ok l [] L hL
      rw [hL]
      have hs : ∀ x, x ∈ l ↔ x ∈ L := fun x => ⟨h2 x, fun k => (h3 x k).resolve_left List.not_mem_nil⟩
      exact reapDir_same (fun id k => blobOf_same (h5 hF0) hs id k) 9 root [] []

end Wk

end Go.Proofs.YtimdioacmojkeaaDoor

namespace Go.Proofs.YtimdioacmojkeaaDoor
open Go.RowKit
set_option maxRecDepth 4000

theorem find_at {l : List Blb} {id : List UInt8} {k : Nat} {x : Blb} (hx : l[k]? = some x) (he : Pk.bid x.p = id) (hno : id ∉ ((pl l).map Pk.bid).take k) : (pl l).find? (fun b => Pk.bid b == id) = some x.p := by
  have hxp : (pl l)[k]? = some x.p := by rw [pl, List.getElem?_map, hx]; rfl
  obtain ⟨hk, e⟩ := List.getElem?_eq_some_iff.1 hxp
  rw [List.find?_eq_some_iff_append]
  refine ⟨by rw [beq_iff_eq]; exact he, (pl l).take k, (pl l).drop (k + 1), ?_, fun a ha => ?_⟩
  · conv => lhs; rw [← List.take_append_drop k (pl l)]
    rw [List.drop_eq_getElem_cons hk, e]
  · rw [Bool.not_eq_true', beq_eq_false_iff_ne]
    intro q
    refine hno ?_
    rw [← List.map_take, ← q]
    exact List.mem_map_of_mem ha

set_option maxHeartbeats 4000000 in
theorem rblobOf_any (vl vi : Value) (l : List Blb) (id : List UInt8) (kd : Int) (w : World) (h : Bx w vl l) (hi : Rx 8 idC w vi ((pl l).map Pk.bid)) (h8 : id.length = 8) :
    Calls Tryd.prog 24 #[vl, vi, idV id, .int .i64 kd] w fun e w' => e = .returned (.tuple #[.string ⟨(Wk.blobOf (pl l) id kd).1.toArray⟩, .int .i64 (Wk.blobOf (pl l) id kd).2]) ∧ Below w.heap.size w w' := by
  obtain ⟨b0, b1, b2, b3, b4, b5, b6, b7, rfl⟩ := eight id h8
  obtain ⟨R, hR⟩ : ∃ R, R = Wk.blobOf (pl l) [b0, b1, b2, b3, b4, b5, b6, b7] kd := ⟨_, rfl⟩
  rw [← hR]
  obtain ⟨W1, hW1⟩ : ∃ W1, W1 = w.alloc (.cells #[.int .u8 (b0.toNat : Int), .int .u8 (b1.toNat : Int), .int .u8 (b2.toNat : Int), .int .u8 (b3.toNat : Int), .int .u8 (b4.toNat : Int), .int .u8 (b5.toNat : Int), .int .u8 (b6.toNat : Int), .int .u8 (b7.toNat : Int)] 24) := ⟨_, rfl⟩
  have HB1 : Hid (Below w.heap.size w W1) := by rw [hW1]; exact (Below.refl _ w).alloc (Nat.le_refl _) _
  have HI1 : Hid (I8 W1 w.heap.size [b0, b1, b2, b3, b4, b5, b6, b7]) := by rw [hW1]; exact I8.laid (heap_alloc_new w _)
  have HX1 : Hid (Bx W1 vl l) := h.below HB1.out
  have hix := ixId_at vi ((pl l).map Pk.bid) [b0, b1, b2, b3, b4, b5, b6, b7] W1 (hi.below HB1.out) (fun q hq => by obtain ⟨b, _, rfl⟩ := List.mem_map.1 hq; exact Pk.bid_length b) rfl
  have hag : idV [b0, b1, b2, b3, b4, b5, b6, b7] = .agg #[.int .u8 (b0.toNat : Int), .int .u8 (b1.toNat : Int), .int .u8 (b2.toNat : Int), .int .u8 (b3.toNat : Int), .int .u8 (b4.toNat : Int), .int .u8 (b5.toNat : Int), .int .u8 (b6.toNat : Int), .int .u8 (b7.toNat : Int)] := rfl
  rw [hag] at hix ⊢
  obtain ⟨y0, y1, y2, y3, y4, y5, y6, y7⟩ := HI1.out.cells
  obtain ⟨a1, c1, rfl, hc1, hc2⟩ := h.slice
  obtain ⟨a2, c2, rfl, _, _⟩ := hi.slice
  have HX : Hid (Bx w (.slice a1 l.length c1) l) := h
  obtain ⟨N, hN⟩ : ∃ N, N = l.length := ⟨_, rfl⟩
  have HN : Hid (N = l.length) := hN
  obtain ⟨M, hM⟩ : ∃ M, M = ((pl l).map Pk.bid).length := ⟨_, rfl⟩
  have HR : Hid (R = Wk.blobOf (pl l) [b0, b1, b2, b3, b4, b5, b6, b7] kd) := hR
  rw [← hN] at HX1 HX hc1 ⊢
  rw [← hM] at hix ⊢
  clear h hi hR hN hM hag h8
  go_enter Tryd.func24, Tryd.ntmps24
  go_upto_region 1 with fail
  rw [← hW1]
  obtain ⟨p1, hp1⟩ : ∃ p1, p1 = w.heap.size := ⟨_, rfl⟩
  have HP1 : Hid (p1 = w.heap.size) := hp1
  rw [← hp1] at y0 y1 y2 y3 y4 y5 y6 y7 HI1 ⊢
  clear hW1 hp1
  go_wp2_with fail
  refine hix.mono ?_
  rintro e w2 ⟨r, rfl, hr, b2⟩
  have HB12 : Hid (Below W1.heap.size W1 w2) := b2
  clear hix b2 y0 y1 y2 y3 y4 y5 y6 y7
  rcases hr with ⟨k, rfl, hk, hno⟩ | ⟨rfl, hno⟩
  · obtain ⟨x, hx⟩ : ∃ x, l[k]? = some x := by
      have : k < ((pl l).map Pk.bid).length := (List.getElem?_eq_some_iff.1 hk).1
      rw [List.length_map, pl_length] at this
      exact ⟨_, List.getElem?_eq_getElem this⟩
    have he : Pk.bid x.p = [b0, b1, b2, b3, b4, b5, b6, b7] := by
      rw [pl, List.map_map, List.getElem?_map, hx] at hk
      exact Option.some.inj hk
    have hf := find_at hx he hno
    have hR2 : R = if x.kind ≠ kd then ([], 5) else (x.bytes.data.toList, 0) := by rw [HR.out, Wk.blobOf, hf]; rfl
    have HR2 : Hid (R = if x.kind ≠ kd then ([], 5) else (x.bytes.data.toList, 0)) := hR2
    have hkN : k < N := by rw [HN.out]; exact (List.getElem?_eq_some_iff.1 hx).1
    obtain ⟨bk, o, rfl, hbk, c0, c1'⟩ := (HX1.out.below HB12.out).blob k x hx
    have hk0 : ¬ ((k : Int) < 0) := by omega
    clear hk hno he hf hx hR2 hbk
    by_cases hkd : x.kind = kd
    · have HRe : Hid (R = (x.bytes.data.toList, 0)) := by show _ = _; rw [HR2.out, if_neg (fun q => q hkd)]
      have hne : (x.kind != kd) = false := by rw [hkd]; simp
      clear HR2 hkd
      go_wp2_with fail
      go_ret2
      exact ⟨by rw [HRe.out]; rfl, HB1.out.trans (HB12.out.mono HB1.out.size)⟩
    · have HRe : Hid (R = ([], 5)) := by show _ = _; rw [HR2.out, if_pos hkd]
      have hne : (x.kind != kd) = true := by rw [bne_iff_ne]; exact hkd
      clear HR2 hkd
      go_wp2_with fail
      go_ret2
      exact ⟨by rw [HRe.out]; rfl, HB1.out.trans (HB12.out.mono HB1.out.size)⟩
  · have HRe : Hid (R = ([], 9)) := by
      have hf : (pl l).find? (fun b => Pk.bid b == [b0, b1, b2, b3, b4, b5, b6, b7]) = none := by
        rw [List.find?_eq_none]
        intro b hb q
        exact hno (List.mem_map.2 ⟨b, hb, by simpa using q⟩)
      show _ = _
      rw [HR.out, Wk.blobOf, hf]
    clear hno
    go_wp2_with fail
    go_ret2
    exact ⟨by rw [HRe.out]; rfl, HB1.out.trans (HB12.out.mono HB1.out.size)⟩
end Go.Proofs.YtimdioacmojkeaaDoor

namespace Go.Proofs.YtimdioacmojkeaaDoor
open Go.RowKit
set_option maxRecDepth 4000

theorem wr_cat (a b : ByteArray) (h : a.data.toList.length ≤ 1000000) (h2 : b.data.toList.length ≤ 1000000) : ∃ c : ByteArray, c.data.toList = a.data.toList ++ b.data.toList ∧ c.size = a.size + b.size ∧ ∀ W : World, (Op.stringOp .add a b).run Tryd.prog W = .ok (.string c) W := by
  refine ⟨⟨(a.data.toList ++ b.data.toList).toArray⟩, rfl, ?_, fun W => ?_⟩
  · rw [Lib.size_eq, Lib.size_eq, Lib.size_eq]; simp
  · have e1 : a = ⟨a.data.toList.toArray⟩ := by cases a; rfl
    have e2 : b = ⟨b.data.toList.toArray⟩ := by cases b; rfl
    conv => lhs; rw [e1, e2]
    exact run_string_add_lists W _ _ (by omega) (by omega)

set_option maxHeartbeats 4000000 in
set_option maxRecDepth 10000 in
theorem rreapFile_any (vl vi pv : Value) (l : List Blb) (n : Nod) (w : World) (h : Bx w vl l) (hi : Rx 8 idC w vi ((pl l).map Pk.bid)) (hsm : Sm l) (hp : Rx 8 idC w pv n.parts) (h8 : ∀ t ∈ n.parts, t.length = 8) (hs0 : 0 ≤ n.size) (hs1 : n.size ≤ 4096) (hl : n.parts.length ≤ 300)
    (R : Wk.Bs × Int) (hR : R = Wk.reapFile (pl l) n.size n.parts []) :
    Calls Tryd.prog 27 #[vl, vi, .agg (ndC n pv).toArray] w fun e w' => e = .returned (.tuple #[.string ⟨R.1.toArray⟩, .int .i64 R.2]) ∧ Below w.heap.size w w' ∧ R.1.length ≤ 4096 := by
  obtain ⟨name, kind, mode, time, size, parts, link⟩ := n
  dsimp only [ndC] at *
  obtain ⟨sz, rfl⟩ := Int.eq_ofNat_of_zero_le hs0
  obtain ⟨pa, pc, rfl, hpc1, hpc2⟩ := hp.slice
  obtain ⟨W1, hW1⟩ : ∃ W1, W1 = w.alloc (.cells #[.string name, .int .i64 kind, .int .i64 mode, .int .i64 time, .int .i64 sz, .slice pa parts.length pc, .string link] 54) := ⟨_, rfl⟩
  have HB1 : Hid (Below w.heap.size w W1) := by rw [hW1]; exact (Below.refl _ w).alloc (Nat.le_refl _) _
  have HM : Hid (W1.heap[w.heap.size]? = some (.cells #[.string name, .int .i64 kind, .int .i64 mode, .int .i64 time, .int .i64 sz, .slice pa parts.length pc, .string link] 54 (0, 0))) := by rw [hW1]; exact heap_alloc_new w _
  have HR0 : Hid (R = Wk.reapFile (pl l) sz (parts.drop 0) (ByteArray.mk #[]).data.toList) := hR
  have HX : Hid (Rx 8 idC w (.slice pa parts.length pc) parts) := hp
  have HL : Hid (Bx w vl l ∧ Rx 8 idC w vi ((pl l).map Pk.bid) ∧ Sm l) := ⟨h, hi, hsm⟩
  have H8 : Hid (∀ t ∈ parts, t.length = 8) := h8
  obtain ⟨n0, n1, n2, n3, n4, n5, n6, nlt⟩ := sev_at HM.out
  obtain ⟨N, hN⟩ : ∃ N, N = parts.length := ⟨_, rfl⟩
  have HN : Hid (N = parts.length) := hN
  rw [← hN] at HX n5 HM hl ⊢
  obtain ⟨PB, hPB⟩ : ∃ PB, PB = w.heap.size := ⟨_, rfl⟩
  have HPB : Hid (PB = w.heap.size) := hPB
  rw [← hN] at hW1
  clear hR hp h hi hsm h8 hpc1 hpc2 hN
  go_enter Tryd.func27, Tryd.ntmps27
  go_upto_region 1 with fail
  rw [← hW1]
  clear hW1
  rw [← hPB] at HM n0 n1 n2 n3 n4 n5 n6 nlt ⊢
  clear hPB
  go_wp2_with fail
  go_loopw [8, 16] (fun vo i wr => ∃ (j : Nat) (out : ByteArray), j ≤ N ∧ i = .int .i64 j ∧ vo = .string out ∧ out.size ≤ sz ∧ Hid (R = Wk.reapFile (pl l) sz (parts.drop j) out.data.toList) ∧ Hid (Below W1.heap.size W1 wr)) (fun _ i _ => N - (intOf i).toNat)
  case atStart => exact ⟨0, ⟨#[]⟩, by omega, rfl, rfl, Nat.zero_le _, HR0, Below.refl _ _⟩
  case round =>
    clear HR0
    obtain ⟨j, out, hj, rfl, rfl, ho, HR, HB⟩ := hrel
    have HBw : Hid (Below w.heap.size w wr) := HB1.out.trans (HB.out.mono HB1.out.size)
    have hnd := (HB.out.block _ (Array.getElem?_eq_some_iff.1 HM.out).1).trans HM.out
    obtain ⟨d0, d1, d2, d3, d4, d5, d6, dlt⟩ := sev_at hnd
    clear n0 n1 n2 n3 n4 n5 n6 nlt
    by_cases hlt : j < N
    · have hjl : j < parts.length := by rw [← HN.out]; exact hlt
      obtain ⟨id, hx⟩ : ∃ id, parts[j]? = some id := ⟨_, List.getElem?_eq_getElem hjl⟩
      have hid := H8.out id (List.mem_of_getElem? hx)
      obtain ⟨s1, s2, s3⟩ := rfile_step hx HR.out
      have hXr := HX.out.below HBw.out
      obtain ⟨kb, ko, rfl, hkb, hcell⟩ := hXr.get j id hx
      obtain ⟨b0, b1, b2, b3, b4, b5, b6, b7, rfl⟩ := eight id hid
      have x0 : wr.cell? ⟨kb, ko + j * 8, none⟩ = some (.int .u8 (b0.toNat : Int)) := hcell 0 _ rfl
      have x1 : wr.cell? ⟨kb, ko + j * 8 + 1, none⟩ = some (.int .u8 (b1.toNat : Int)) := hcell 1 _ rfl
      have x2 : wr.cell? ⟨kb, ko + j * 8 + 2, none⟩ = some (.int .u8 (b2.toNat : Int)) := hcell 2 _ rfl
      have x3 : wr.cell? ⟨kb, ko + j * 8 + 3, none⟩ = some (.int .u8 (b3.toNat : Int)) := hcell 3 _ rfl
      have x4 : wr.cell? ⟨kb, ko + j * 8 + 4, none⟩ = some (.int .u8 (b4.toNat : Int)) := hcell 4 _ rfl
      have x5 : wr.cell? ⟨kb, ko + j * 8 + 5, none⟩ = some (.int .u8 (b5.toNat : Int)) := hcell 5 _ rfl
      have x6 : wr.cell? ⟨kb, ko + j * 8 + 6, none⟩ = some (.int .u8 (b6.toNat : Int)) := hcell 6 _ rfl
      have x7 : wr.cell? ⟨kb, ko + j * 8 + 7, none⟩ = some (.int .u8 (b7.toNat : Int)) := hcell 7 _ rfl
      have hgl := blobOf_small HL.out.2.2 [b0, b1, b2, b3, b4, b5, b6, b7] 1
      obtain ⟨WA, hWA⟩ : ∃ WA, WA = wr.alloc (.cells #[.int .u8 (b0.toNat : Int), .int .u8 (b1.toNat : Int), .int .u8 (b2.toNat : Int), .int .u8 (b3.toNat : Int), .int .u8 (b4.toNat : Int), .int .u8 (b5.toNat : Int), .int .u8 (b6.toNat : Int), .int .u8 (b7.toNat : Int)] 24) := ⟨_, rfl⟩
      have hbA : Below wr.heap.size wr WA := by rw [hWA]; exact (Below.refl _ wr).alloc (Nat.le_refl _) _
      have HBA : Hid (Below W1.heap.size W1 WA) := HB.out.trans (hbA.mono HB.out.size)
      have HBwA : Hid (Below w.heap.size w WA) := HBw.out.trans (hbA.mono HBw.out.size)
      have HIA : Hid (I8 WA wr.heap.size [b0, b1, b2, b3, b4, b5, b6, b7]) := by rw [hWA]; exact I8.laid (heap_alloc_new wr _)
      have hbo := rblobOf_any vl vi l [b0, b1, b2, b3, b4, b5, b6, b7] 1 WA (HL.out.1.below HBwA.out) (HL.out.2.1.below HBwA.out) rfl
      have hag : idV [b0, b1, b2, b3, b4, b5, b6, b7] = .agg #[.int .u8 (b0.toNat : Int), .int .u8 (b1.toNat : Int), .int .u8 (b2.toNat : Int), .int .u8 (b3.toNat : Int), .int .u8 (b4.toNat : Int), .int .u8 (b5.toNat : Int), .int .u8 (b6.toNat : Int), .int .u8 (b7.toNat : Int)] := rfl
      rw [hag] at hbo
      rcases hG : Wk.blobOf (pl l) [b0, b1, b2, b3, b4, b5, b6, b7] 1 with ⟨gs, GE⟩
      rw [hG] at hbo s1 s2 s3 hgl
      dsimp only at hbo s1 s2 s3 hgl
      obtain ⟨GS, hGS⟩ : ∃ GS : ByteArray, GS = ⟨gs.toArray⟩ := ⟨_, rfl⟩
      have hGd : GS.data.toList = gs := by rw [hGS]
      rw [← hGS] at hbo
      rw [← hGd] at s2 s3 hgl
      obtain ⟨y0, y1, y2, y3, y4, y5, y6, y7⟩ := HIA.out.cells
      obtain ⟨C, hC1, hC2, hC3⟩ := wr_cat out GS (by rw [← Lib.size_eq]; omega) (by omega)
      have hcs : (out.data.toList ++ GS.data.toList).length = C.size := by rw [Lib.size_eq, hC1]
      rw [hcs] at s2
      rw [hcs, ← hC1] at s3
      have HS1 : Hid (GE ≠ 0 → R = ([], GE)) := s1
      have HS2 : Hid (GE = 0 → (sz : Int) < ((C.size : Nat) : Int) → R = ([], 4)) := s2
      have HS3 : Hid (GE = 0 → ¬ (sz : Int) < ((C.size : Nat) : Int) → R = Wk.reapFile (pl l) sz (parts.drop (j + 1)) C.data.toList) := s3
      have hgz : GS.size ≤ 4096 := by have h := hgl; rw [← Lib.size_eq] at h; exact h
      have hCs : C.size ≤ 20000 := by rw [hC2]; omega
      clear s1 s2 s3 hG hGS hGd hgl hgz hXr hx hid hcell hbA HB HR hjl hag hC1 hC2 hcs
      go_upto_region 5 with fail
      rw [← hWA]
      generalize wr.heap.size = p2 at *
      clear hWA x0 x1 x2 x3 x4 x5 x6 x7 hkb d0 d1 d2 d3 d4 d5 d6 dlt hnd
      go_wp2_with fail
      refine hbo.mono ?_
      rintro e w3 ⟨rfl, b3⟩
      have HB3 : Hid (Below W1.heap.size W1 w3) := HBA.out.trans (b3.mono HBA.out.size)
      have HBw3 : Hid (Below w.heap.size w w3) := HBwA.out.trans (b3.mono HBwA.out.size)
      have hnd := (HB3.out.block _ (Array.getElem?_eq_some_iff.1 HM.out).1).trans HM.out
      obtain ⟨d0, d1, d2, d3, d4, d5, d6, dlt⟩ := sev_at hnd
      clear hbo b3 hnd y0 y1 y2 y3 y4 y5 y6 y7
      by_cases hE : GE = 0
      case neg =>
        have HRe : Hid (R = ([], GE)) := HS1.out hE
        have hne : (GE != 0) = true := by rw [bne_iff_ne]; exact hE
        clear HS1 HS2 HS3 hE
        go_wp2_with fail
        go_ret2
        exact ⟨by rw [HRe.out]; rfl, HBw3.out, by rw [HRe.out]; simp⟩
      have HSz := (show Hid _ from HS2.out hE)
      have HSy := (show Hid _ from HS3.out hE)
      subst hE
      clear HS1 HS2 HS3
      by_cases hgt : sz < C.size
      · have HRe : Hid (R = ([], 4)) := HSz.out (by exact_mod_cast hgt)
        have hgi : (sz : Int) < (C.size : Int) := by exact_mod_cast hgt
        clear HSz HSy
        go_wp2_with fail
        go_ret2
        exact ⟨by rw [HRe.out]; rfl, HBw3.out, by rw [HRe.out]; simp⟩
      · have HRn : Hid (R = Wk.reapFile (pl l) sz (parts.drop (j + 1)) C.data.toList) := HSy.out (by omega)
        have hgi : ¬ (sz : Int) < (C.size : Int) := by omega
        have hCle : C.size ≤ sz := by omega
        clear HSz HSy
        go_wp2_with fail
        go_roundw
        case measure => simp only [intOf]; omega
        case rel => exact ⟨j + 1, C, by omega, by go_num, rfl, hCle, HRn, HB3.out⟩
    · obtain rfl : j = N := by omega
      have hRz : R = if (out.size : Int) ≠ sz then ([], 4) else (out.data.toList, 0) := by
        have e : parts.drop j = [] := by rw [HN.out]; exact List.drop_of_length_le (Nat.le_refl _)
        rw [HR.out, e, Lib.size_eq]; rfl
      by_cases hsz : out.size = sz
      · have HRe : Hid (R = (out.data.toList, 0)) := by show _ = _; rw [hRz, if_neg (by omega)]
        have HOl : Hid (out.size ≤ 4096) := by show _ ≤ _; omega
        have hq : (((out.size : Nat) : Int) != (sz : Int)) = false := by rw [hsz]; simp
        clear hRz HR hsz
        go_wp2_with fail
        go_ret2
        exact ⟨by rw [HRe.out]; rfl, HBw.out, by rw [HRe.out, ← Lib.size_eq]; exact HOl.out⟩
      · have HRe : Hid (R = ([], 4)) := by show _ = _; rw [hRz, if_pos (by omega)]
        have hq : (((out.size : Nat) : Int) != (sz : Int)) = true := by rw [bne_iff_ne]; omega
        clear hRz HR hsz
        go_wp2_with fail
        go_ret2
        exact ⟨by rw [HRe.out]; rfl, HBw.out, by rw [HRe.out]; simp⟩

end Go.Proofs.YtimdioacmojkeaaDoor

namespace Go.Proofs.YtimdioacmojkeaaDoor
open Go.RowKit
set_option maxRecDepth 4000

def RtOy (s : ByteArray) (w : World) (e : Ending) (w' : World) : Prop :=
  ∃ v l, e = .returned (.tuple #[v, .int .i64 (Td.read s.data.toList).2]) ∧ nds l = (Td.read s.data.toList).1 ∧ Oy 7 54 NdG w.heap.size w' v l ∧ l.length ≤ 64 ∧ (∀ n ∈ l, n.name.size ≤ 1024) ∧ Below w.heap.size w w'

set_option maxHeartbeats 4000000 in
set_option maxRecDepth 10000 in
theorem rtree_oy (s : ByteArray) (w : World) (hs : s.size ≤ 9223372036854775807) : Calls Tryd.prog 18 #[.string s] w (RtOy s w) := by
  unfold RtOy
  have HT : Hid (Td.read s.data.toList = if 4096 < s.data.toList.length then ([], 2) else if (Td.num 64 s.data.toList).2.2 ≠ 0 then ([], (Td.num 64 s.data.toList).2.2) else Td.rdAll (Td.num 64 s.data.toList).1 (Td.num 64 s.data.toList).2.1 []) := rfl
  generalize Td.read s.data.toList = RES at *
  by_cases h4 : 4096 < s.size
  · have HR : Hid (RES = ([], 2)) := by
      have := HT.out
      rwa [if_pos (by rw [← Lib.size_eq]; exact h4)] at this
    have g4 : (4096 : Int) < (s.size : Int) := by omega
    clear HT
    go_enter Tryd.func18, Tryd.ntmps18
    go_wp2_with fail
    go_ret2
    exact ⟨.slice none 0 0, [], by rw [HR.out]; rfl, by rw [HR.out]; rfl, Oy.nil, by simp, fun n hn => absurd hn List.not_mem_nil, Below.refl _ _⟩
  have g4 : ¬ (4096 : Int) < (s.size : Int) := by omega
  rw [if_neg (by rw [← Lib.size_eq]; exact h4)] at HT
  have hcall := numAt_any s 64 w (by omega) (by omega)
  have hlen := Td.num_len 64 s.data.toList
  rcases hM : Td.num 64 s.data.toList with ⟨many, l1, em⟩
  rw [hM] at hcall HT hlen
  have hmany : many ≤ 64 := Td.num_most hM
  simp only at hcall hlen
  rw [← Lib.size_eq] at hlen
  clear hM
  obtain ⟨i0, hi, hz0, hz1, hz2⟩ := info_of' info_nd
  go_enter Tryd.func18, Tryd.ntmps18
  go_wp2_with fail
  refine hcall.mono ?_
  rintro e w1 ⟨rfl, b1⟩
  have HB1 : Hid (Below w.heap.size w w1) := b1
  clear hcall b1
  by_cases he : em ≠ 0
  · have hqn : (em != 0) = true := by rw [bne_iff_ne]; exact he
    have HR : Hid (RES = ([], em)) := by
      have := HT.out
      rwa [if_pos he] at this
    clear HT
    go_wp2_with fail
    go_ret2
    exact ⟨.slice none 0 0, [], by rw [HR.out]; rfl, by rw [HR.out]; rfl, Oy.nil, by simp, fun n hn => absurd hn List.not_mem_nil, HB1.out⟩
  obtain rfl := Decidable.not_not.mp he
  clear he
  have HR0 : Hid (Td.rdAll (many - 0) l1 (nds []) = RES) := by
    have := HT.out
    rw [if_neg (by simp)] at this
    exact this.symm
  clear HT
  go_wp2_with fail
  go_loopw [0, 6, 22] (fun x v i wr => ∃ (k : Nat) (rest : List UInt8) (l : List Nod), k ≤ many ∧ i = .int .i64 k ∧ x = .string ⟨rest.toArray⟩ ∧ rest.length ≤ 4096 ∧ l.length = k ∧ Hid (Td.rdAll (many - k) rest (nds l) = RES) ∧ Hid (∀ n ∈ l, n.name.size ≤ 1024) ∧ Hid (Oy 7 54 NdG w.heap.size wr v l) ∧ Hid (Below w.heap.size w wr)) (fun _ _ i _ => many - (intOf i).toNat)
  case atStart => exact ⟨0, l1, [], by omega, rfl, rfl, by omega, rfl, HR0, (fun n hn => absurd hn List.not_mem_nil), Oy.nil, HB1⟩
  case round =>
    clear HR0 HB1
    obtain ⟨k, rest, l, hk, rfl, rfl, hrl, hlk, HR, HNm, HO, HB⟩ := hrel
    by_cases hlt : k < many
    · have hst := Td.rdAll_step (m := many - (k + 1)) (s := rest) (out := nds l) (RES := RES) (by rw [show many - (k + 1) + 1 = many - k from by omega]; exact HR.out)
      have HSt : Hid (((Td.rdOne rest).2.2 ≠ 0 → RES = ([], (Td.rdOne rest).2.2)) ∧ ((Td.rdOne rest).2.2 = 0 → Td.rdAll (many - (k + 1)) (Td.rdOne rest).2.1 (nds l ++ [(Td.rdOne rest).1]) = RES)) := hst
      obtain ⟨sr, hsr⟩ : ∃ sr : ByteArray, sr = ⟨rest.toArray⟩ := ⟨_, rfl⟩
      have hdr : sr.data.toList = rest := by rw [hsr]
      obtain ⟨W1, hW1⟩ : ∃ W1, W1 = wr.alloc (.cells #[.string ⟨#[]⟩, .int .i64 0, .int .i64 0, .int .i64 0, .int .i64 0, .slice none 0 0, .string ⟨#[]⟩] 54) := ⟨_, rfl⟩
      have hB1 : Below wr.heap.size wr W1 := by rw [hW1]; exact (Below.refl _ wr).alloc (Nat.le_refl _) _
      have HBB : Hid (Below wr.heap.size wr W1) := hB1
      have HM1 : Hid (W1.heap[wr.heap.size]? = some (.cells #[.string ⟨#[]⟩, .int .i64 0, .int .i64 0, .int .i64 0, .int .i64 0, .slice none 0 0, .string ⟨#[]⟩] 54 (0, 0))) := by rw [hW1]; exact heap_alloc_new wr _
      have hnr := nodeRead_any sr W1 (by rw [Lib.size_eq, hdr]; omega)
      unfold RdOut at hnr
      rw [hdr] at hnr
      have HLn : Hid (∀ {n : Nod}, Td.rdOne rest = (n.nd, (Td.rdOne rest).2.1, 0) → (Td.rdOne rest).2.1.length ≤ rest.length) := fun h => by
        have := congrArg List.length (Td.rdOne_one h).2
        rw [List.length_append] at this
        omega
      generalize Td.rdOne rest = ONE at *
      rw [← hsr]
      clear hst hB1 hsr hdr HR
      go_upto_region 10 with fail
      rw [← hW1]
      obtain ⟨b7, hb7⟩ : ∃ b7, b7 = wr.heap.size := ⟨_, rfl⟩
      have HB7 : Hid (b7 = wr.heap.size) := hb7
      rw [← hb7] at HM1 ⊢
      clear hW1 hb7
      go_wp2_with fail
      refine hnr.mono ?_
      rintro e w3 ⟨b3, ⟨hne, n, av, nv, cv, rfl⟩ | ⟨n, v, hone, rfl, hRx, hTy, hOk, hNs⟩⟩
      · have HB3 : Hid (Below w.heap.size w w3) := (HB.out.trans (HBB.out.mono HB.out.size)).trans (b3.mono (HB.out.trans (HBB.out.mono HB.out.size)).size)
        have HRE : Hid (RES = ([], ONE.2.2)) := HSt.out.1 hne
        have hqn : (ONE.2.2 != 0) = true := by rw [bne_iff_ne]; exact hne
        obtain ⟨m0, m1, m2, m3, m4, m5, m6⟩ := seven_at ((b3.block _ (Array.getElem?_eq_some_iff.1 HM1.out).1).trans HM1.out)
        obtain ⟨f0, f1, f2, f3, f4, f5, f6⟩ := seven_fz ((b3.block _ (Array.getElem?_eq_some_iff.1 HM1.out).1).trans HM1.out)
        obtain ⟨name, kind, mode, time, size, parts, link⟩ := n
        generalize ONE.2.2 = E at *
        clear hnr b3 HSt
        go_wp2_with fail
        go_ret2
        exact ⟨.slice none 0 0, [], by rw [HRE.out]; rfl, by rw [HRE.out]; rfl, Oy.nil, by simp, (fun n hn => absurd hn List.not_mem_nil), below7' HB3.out (by have := HB7.out; have := HB.out.size; omega) _ _ _ _ _ _ _⟩
      · obtain ⟨av, cv, rfl, _⟩ := hRx.slice
        have hb13 : Below wr.heap.size wr w3 := HBB.out.trans (b3.mono HBB.out.size)
        have HB3 : Hid (Below w.heap.size w w3) := HB.out.trans (hb13.mono HB.out.size)
        have hM3 := (b3.block _ (Array.getElem?_eq_some_iff.1 HM1.out).1).trans HM1.out
        obtain ⟨m0, m1, m2, m3, m4, m5, m6⟩ := seven_at hM3
        obtain ⟨f0, f1, f2, f3, f4, f5, f6⟩ := seven_fz hM3
        have HRE : Hid (Td.rdAll (many - (k + 1)) ONE.2.1 (nds (l ++ [n])) = RES) := by
          have := HSt.out.2 (by rw [hone])
          rw [show ONE.1 = n.nd from by rw [hone]] at this
          show _ = _
          rw [show nds (l ++ [n]) = nds l ++ [n.nd] from by simp [nds]]
          exact this
        have HNm2 : Hid (∀ x ∈ l ++ [n], x.name.size ≤ 1024) := fun x hx => by
          rcases List.mem_append.1 hx with q | q
          · exact HNm.out x q
          · rw [List.mem_singleton.1 q]; exact hNs
        have hrl2 : ONE.2.1.length ≤ 4096 := by
          have := HLn.out hone
          omega
        obtain ⟨cc, o1, o2, o3, o4⟩ := HO.out
        have HG3 : NdG w3 n (ndC n (.slice av n.parts.length cv)) := ⟨_, rfl, hRx, hTy, hOk⟩
        have HLe : Hid (l.length = k ∧ (l ++ [n]).length = k + 1) := ⟨hlk, by rw [List.length_append, hlk]; rfl⟩
        obtain ⟨np, hnp⟩ : ∃ np, np = n.parts.length := ⟨_, rfl⟩
        rw [← hnp] at HG3 ⊢
        obtain ⟨W4, hW4⟩ : ∃ W4, W4 = (((((((w3.setCell ⟨b7, 0, none⟩ (.string n.name)).setCell ⟨b7, 1, none⟩ (.int .i64 n.kind)).setCell ⟨b7, 2, none⟩ (.int .i64 n.mode)).setCell ⟨b7, 3, none⟩ (.int .i64 n.time)).setCell ⟨b7, 4, none⟩ (.int .i64 n.size)).setCell ⟨b7, 5, none⟩ (.slice av np cv)).setCell ⟨b7, 6, none⟩ (.string n.link)) := ⟨_, rfl⟩
        have HM4 : Hid (W4.heap[b7]? = some (.cells (ndC n (.slice av np cv)).toArray 54 (0, 0))) := by rw [hW4]; exact set_seven hM3 _ _ _ _ _ _ _
        have hKt : Kt 54 w3 W4 := by rw [hW4]; exact kt_seven hM3 _ _ _ _ _ _ _
        have HB4 : Hid (Below w.heap.size w W4) := by rw [hW4]; exact below7' HB3.out (by have := HB7.out; have := HB.out.size; omega) _ _ _ _ _ _ _
        have o1' : W4.ownsRow w.heap.size 54 7 u6 l.length cc.flatten := by
          rw [hW4]
          exact own_kept (own_kept o1 (Kept.of_below (p := fun _ => True) hb13) fun _ _ => trivial) (kept7 w3 b7 _ _ _ _ _ _ _) fun g hg => by
            obtain ⟨_, _, _, q⟩ := own_block o1 hg
            have := HB7.out
            omega
        have HO2 : Hid ((∀ c ∈ cc, c.length = 7) ∧ cc.length = l.length ∧ ∀ (j : Nat) t c, l[j]? = some t → cc[j]? = some c → NdG W4 t c) := ⟨o2, o3, fun j t c a b => NdG.kt hKt (NdG.below hb13 (o4 j t c a b))⟩
        have HG : Hid (NdG W4 n (ndC n (.slice av np cv))) := NdG.kt hKt HG3
        have hl4 : l.length ≤ 64 := by omega
        have hsw := HB4.out.size
        clear hnr b3 HSt HM1 HBB hb13 hM3 HB3 HO o1 o2 o3 o4 HG3 hKt hRx hTy hOk hNs HNm hnp HB7
        obtain ⟨name, kind, mode, time, size, parts, link⟩ := n
        dsimp only at *
        generalize hor : ONE.2.1 = rest2 at *
        clear hone hor
        go_upto_region 11 with fail
        rw [← hW4]
        clear hW4 m0 m1 m2 m3 m4 m5 m6 f0 f1 f2 f3 f4 f5 f6
        obtain ⟨m0, m1, m2, m3, m4, m5, m6⟩ := seven_at HM4.out
        go_wp2_with (at_builtin; refine wpList_append_own _ rfl (.tmp 33) (.tmp 35) 50 rfl w.heap.size 54 i0 (.agg #[.string ⟨#[]⟩, .int .i64 0, .int .i64 0, .int .i64 0, .int .i64 0, .slice none 0 0, .string ⟨#[]⟩]) 7 88 Tryd.underlying50 hi hz0 hz1 hz2 rfl (by decide) _ _ _ rfl (o1'.alloc _) ⟨W4.heap.size, 0, none⟩ 1 1 [.string name, .int .i64 kind, .int .i64 mode, .int .i64 time, .int .i64 size, .slice av np cv, .string link] rfl rfl (seven_new W4 _ _ _ _ _ _ _) ?c2 ?c3 ?c4 ?c5 ?_)
        case c2 => simp [Value.oneCell']
        case c3 => unfold maxLen; omega
        case c4 => omega
        case c5 => first | omega | (simp; omega)
        intro v6 w5 hown5 hgrow _
        rw [← HLe.out.1] at hown5
        have hk5 : Kt 54 W4 w5 := ((Kt.refl _ W4).alloc _).trans (Kt.of_grown hgrow fun g hg => by
          obtain ⟨cur, q, _⟩ := own_block (o1'.alloc _) hg
          exact ⟨cur, _, q⟩)
        have HB5 : Hid (Below w.heap.size w w5) := (HB4.out.alloc hsw _).grown hgrow (by simp; omega) fun g hg => own_ge o1' hg
        have HOn : Hid (Oy 7 54 NdG w.heap.size w5 v6 (l ++ [⟨name, kind, mode, time, size, parts, link⟩])) := Oy.more HO2.out.1 HO2.out.2.1 (fun j t c a b => NdG.kt hk5 (HO2.out.2.2 j t c a b)) hown5 rfl (NdG.kt hk5 HG.out)
        clear hown5 hgrow hk5 o1' HO2 HG HB4 HM4 m0 m1 m2 m3 m4 m5 m6
        go_wp2_with fail
        go_roundw
        case measure => simp only [intOf]; omega
        case rel => exact ⟨k + 1, rest2, _, by omega, by go_num, rfl, hrl2, HLe.out.2, HRE, HNm2, HOn, HB5⟩
    · obtain rfl : k = many := by omega
      have HE : Hid (RES = if rest ≠ [] then ([], 4) else if Td.check (nds l) ≠ 0 then ([], Td.check (nds l)) else (nds l, 0)) := by
        have := HR.out
        rw [Nat.sub_self, Td.rdAll] at this
        exact this.symm
      have hno := rnodes_any u6 l wr (Nds.of_oy HO.out) (by omega) (fun n hn => by have := HNm.out n hn; omega)
      have HNd : Hid (Oy 7 54 NdG w.heap.size wr u6 l) := HO
      clear HR HO
      by_cases hre : rest ≠ []
      · have e1 : rest.isEmpty = false := by cases rest with | nil => exact absurd rfl hre | cons a b => rfl
        have HRE : Hid (RES = ([], 4)) := by
          have := HE.out
          rwa [if_pos hre] at this
        clear HE hno
        go_wp2_with fail
        go_ret2
        exact ⟨.slice none 0 0, [], by rw [HRE.out]; rfl, by rw [HRE.out]; rfl, Oy.nil, by simp, (fun n hn => absurd hn List.not_mem_nil), HB.out⟩
      obtain rfl := Decidable.not_not.mp hre
      have HE2 : Hid (RES = if Td.check (nds l) ≠ 0 then ([], Td.check (nds l)) else (nds l, 0)) := by
        have := HE.out
        rwa [if_neg (by simp)] at this
      generalize Td.check (nds l) = E at *
      clear HE hre
      go_wp2_with fail
      refine hno.mono ?_
      rintro e w5 ⟨rfl, b5⟩
      have HB5 : Hid (Below w.heap.size w w5) := HB.out.trans (b5.mono HB.out.size)
      have HN5 : Hid (Oy 7 54 NdG w.heap.size w5 u6 l) := HNd.out.below b5 fun _ _ q => NdG.below b5 q
      clear hno b5
      by_cases hE : E ≠ 0
      · have hqn : (E != 0) = true := by rw [bne_iff_ne]; exact hE
        have HRE : Hid (RES = ([], E)) := by
          have := HE2.out
          rwa [if_pos hE] at this
        clear HE2
        go_wp2_with fail
        go_ret2
        exact ⟨.slice none 0 0, [], by rw [HRE.out]; rfl, by rw [HRE.out]; rfl, Oy.nil, by simp, (fun n hn => absurd hn List.not_mem_nil), HB5.out⟩
      obtain rfl := Decidable.not_not.mp hE
      have HRE : Hid (RES = (nds l, 0)) := by
        have := HE2.out
        rwa [if_neg (by simp)] at this
      clear HE2 hE
      go_wp2_with fail
      go_ret2
      exact ⟨_, l, by rw [HRE.out]; rfl, by rw [HRE.out], HN5.out, by omega, HNm.out, HB5.out⟩

end Go.Proofs.YtimdioacmojkeaaDoor

namespace Go.Proofs.YtimdioacmojkeaaDoor
open Go.RowKit
set_option maxRecDepth 4000

theorem info_txt : (Tryd.prog.info? 9).map (fun i => (i.zero, i.size, i.bytes)) = some (some (.string ⟨#[]⟩), 1, 16) := by kernel_rfl
theorem info_tis {P : Program} {e : TypeId} {z : Option Value} {s b : Nat} (h : (P.info? e).map (fun i => (i.zero, i.size, i.bytes)) = some (z, s, b)) : ∃ i, P.info? e = some i ∧ i.zero = z ∧ i.size = s ∧ i.bytes = b := by
  cases hi : P.info? e with
  | none => rw [hi] at h; cases h
  | some i =>
    rw [hi] at h
    simp only [Option.map_some, Option.some.injEq, Prod.mk.injEq] at h
    exact ⟨i, rfl, h.1, h.2.1, h.2.2⟩

set_option maxHeartbeats 1000000 in
theorem cloneT_any (v : Value) (l : List ByteArray) (w : World) (h : Tx w v l) (hl : l.length * 16 ≤ 140737488355328) :
    Calls Tryd.prog 25 #[v] w fun e w' => ∃ v', e = .returned v' ∧ w'.ownsRow w.heap.size 9 1 v' l.length (l.map Tv) ∧ Below w.heap.size w w' := by
  obtain ⟨i0, hi, hz0, hz1, hz2⟩ := info_tis info_txt
  obtain ⟨a, c, rfl⟩ := h.slice
  have qn : ∀ (w : World) (a : Option Addr) (n c n' c' : Nat), (binOp .eql 65 (.slice a n c) (.slice none n' c')).run Tryd.prog w = .ok (.bool a.isNone) w := fun w a n c n' c' => Lib.run_eql_slice_nil w _ _ a n c n' c' Tryd.underlying65
  cases a with
  | none =>
    have h0 : l.length = 0 := h.src.1 rfl
    have HE : Hid (w.ownsRow w.heap.size 9 1 (.slice none 0 0) l.length (l.map Tv)) := by
      show World.ownsRow _ _ _ _ _ _ _
      have : l = [] := List.length_eq_zero_iff.1 h0
      subst this
      exact World.ownsRow_nil _ _ _ _
    clear h
    generalize l.length = n at *
    go_enter Tryd.func25, Tryd.ntmps25
    go_wp2_with fail
    go_ret
    exact ⟨_, rfl, HE.out, Below.refl _ _⟩
  | some ad =>
    have hcell2 : ∀ j u, (l.map Tv)[j]? = some u → (w.alloc (.cells #[] 9)).cell? (ad.add j) = some u := (h.below ((Below.refl w.heap.size w).alloc (Nat.le_refl _) _)).src.2 _ rfl
    have hown0 : (w.alloc (.cells #[] 9)).ownsRow w.heap.size 9 1 (.slice (some ⟨w.heap.size, 0, none⟩) 0 0) 0 [] := World.ownsRow_lit w #[] 0 (Nat.le_refl _) (by unfold maxLen; omega) rfl
    clear h
    go_enter Tryd.func25, Tryd.ntmps25
    go_wp2_with (at_builtin; refine wpList_append_own _ rfl (.tmp 5) (.tmp 6) 65 rfl w.heap.size 9 i0 (.string ⟨#[]⟩) 1 16 Tryd.underlying65 hi hz0 hz1 hz2 rfl (by decide) _ _ _ rfl hown0 ad l.length _ (l.map Tv) rfl (by simp) hcell2 (tv_one l) (by unfold maxLen; omega) (by omega) (by simp) ?_; intro v1 w3 o3 g3 _)
    simp only [Nat.zero_add, List.nil_append] at o3
    have HO : Hid (w3.ownsRow w.heap.size 9 1 v1 l.length (l.map Tv)) := o3
    have HB : Hid (Below w.heap.size w w3) := ((Below.refl _ w).alloc (Nat.le_refl _) _).grown g3 (by simp) (fun k hk => by cases hk; exact Nat.le_refl _)
    clear o3 g3
    go_ret
    exact ⟨_, rfl, HO.out, HB.out⟩
end Go.Proofs.YtimdioacmojkeaaDoor

namespace Go.Proofs.YtimdioacmojkeaaDoor
open Go.RowKit
end Go.Proofs.YtimdioacmojkeaaDoor

namespace Go.Proofs.YtimdioacmojkeaaDoor
open Go.RowKit

/-- texts as lists of bytes -/
def dl (l : List ByteArray) : List Nn.Name := l.map (·.data.toList)
/-- no slice is longer than its room -/
def Cp (v : Value) : Prop := ∀ a n c, v = .slice a n c → n ≤ c
theorem Cp.none : Cp (.slice none 0 0) := fun a n c h => by cases h; exact Nat.le_refl _
theorem Cp.of_own {base : Nat} {e : TypeId} {w : World} {v : Value} {n : Nat} {xs : List Value} (h : w.ownsRow base e 1 v n xs) : Cp v := fun a m c hv => by
  rcases h.2 with ⟨rfl, h0⟩ | ⟨g, cap, cur, rfl, _, _, hle, _⟩
  · cases hv; exact Nat.le_refl _
  · cases hv; exact hle
/-- no text is longer than a text may be -/
def Few (l : List ByteArray) : Prop := ∀ s ∈ l, s.size ≤ 9223372036854775807
theorem dl_length (l : List ByteArray) : (dl l).length = l.length := by simp [dl]
theorem errsF_drop (l : List ByteArray) (k : Nat) (hk : k < l.length) : Nn.errsF k (dl (l.drop k)) = if 8 ≤ k then 14 else if Nn.nm (l.getD k ByteArray.empty).data.toList ≠ 0 then Nn.nm (l.getD k ByteArray.empty).data.toList else Nn.errsF (k + 1) (dl (l.drop (k + 1))) := by
  rw [List.drop_eq_getElem_cons hk, List.getD_eq_getElem?_getD, List.getElem?_eq_getElem hk]
  rfl
end Go.Proofs.YtimdioacmojkeaaDoor

namespace Go.Proofs
open Go.Shelf
def Tryd.lays156_ren : Go.Shelf.Ren := ⟨fun | 156 => 26 | 165 => 40 | 166 => 41 | 169 => 42 | 240 => 58 | 241 => 59 | 276 => 79 | 277 => 80 | n => n, fun | 31 => 65 | 9 => 9 | 3 => 3 | 4 => 4 | 0 => 0 | 20 => 20 | 72 => 87 | 76 => 91 | 70 => 85 | 37 => 64 | 75 => 90 | 127 => 111 | 164 => 123 | 5 => 5 | 80 => 93 | n => n, fun | n => n⟩
theorem Tryd.lays156 : Go.Proofs.Lays.n156 Tryd.prog Tryd.lays156_ren := {
  mixed := by kernel_rfl
  f156 := Tryd.func26.trans (congrArg some (by kernel_rfl))
  f165 := Tryd.func40.trans (congrArg some (by kernel_rfl))
  f166 := Tryd.func41.trans (congrArg some (by kernel_rfl))
  f169 := Tryd.func42.trans (congrArg some (by kernel_rfl))
  f240 := Tryd.func58.trans (congrArg some (by kernel_rfl))
  f241 := Tryd.func59.trans (congrArg some (by kernel_rfl))
  f276 := Tryd.func79.trans (congrArg some (by kernel_rfl))
  f277 := Tryd.func80.trans (congrArg some (by kernel_rfl))
  t0 := Tryd.underlying0
  a0 := Tryd.isAgg0
  z0 := Tryd.sizeOf0
  v0 := Tryd.zeroValue0
  t3 := Tryd.underlying3
  a3 := Tryd.isAgg3
  z3 := Tryd.sizeOf3
  v3 := Tryd.zeroValue3
  t4 := Tryd.underlying4
  a4 := Tryd.isAgg4
  z4 := Tryd.sizeOf4
  v4 := Tryd.zeroValue4
  t9 := Tryd.underlying9
  a9 := Tryd.isAgg9
  z9 := Tryd.sizeOf9
  v9 := Tryd.zeroValue9
  t20 := Tryd.underlying20
  a20 := Tryd.isAgg20
  z20 := Tryd.sizeOf20
  v20 := Tryd.zeroValue20
  t31 := Tryd.underlying65
  a31 := Tryd.isAgg65
  z31 := Tryd.sizeOf65
  v31 := Tryd.zeroValue65
  t37 := Tryd.underlying64
  a37 := Tryd.isAgg64
  z37 := Tryd.sizeOf64
  v37 := Tryd.zeroValue64
  t70 := Tryd.underlying85
  a70 := Tryd.isAgg85
  z70 := Tryd.sizeOf85
  v70 := Tryd.zeroValue85
  t72 := Tryd.underlying87
  a72 := Tryd.isAgg87
  z72 := Tryd.sizeOf87
  v72 := Tryd.zeroValue87
  t75 := Tryd.underlying90
  a75 := Tryd.isAgg90
  z75 := Tryd.sizeOf90
  v75 := Tryd.zeroValue90
  t76 := Tryd.underlying91
  a76 := Tryd.isAgg91
  z76 := Tryd.sizeOf91
  v76 := Tryd.zeroValue91
  t127 := Tryd.underlying111
  a127 := Tryd.isAgg111
  z127 := Tryd.sizeOf111
  v127 := Tryd.zeroValue111
  t164 := Tryd.underlying123
  a164 := Tryd.isAgg123
  z164 := Tryd.sizeOf123
  v164 := Tryd.zeroValue123 }
theorem Tryd.Builder_Extra_156 : Builder.Extra Tryd.prog Tryd.lays156_ren := {
  sizeBuilder := by kernel_rfl
  liesBuilder := by kernel_rfl
  t5 := Tryd.underlying5
  a5 := Tryd.isAgg5
  z5 := Tryd.sizeOf5
  v5 := Tryd.zeroValue5
  infoByte := by kernel_rfl
  cellsByte := by kernel_rfl
  sizeByte := by kernel_rfl
  neB5 := by decide }
open Go.RowKit in
theorem Tryd.strings_Join_none (a : Option Addr) (c : Nat) (sep : ByteArray) (w : World) :
    Calls Tryd.prog 26 #[.slice a 0 c, .string sep] w fun e w' => e = .returned (.string ⟨#[]⟩) ∧ w' = w := Any.strings_Join_none Tryd.lays156 Tryd.Builder_Extra_156 a c sep w
open Go.RowKit in
theorem Tryd.strings_Join (bk o c : Nat) (xs : List ByteArray) (sep : ByteArray) (w : World) (hcells : ∀ (j : Nat) x, xs[j]? = some x → w.cell? ⟨bk, o + j, none⟩ = some (.string x)) (hbk : bk < w.heap.size) (hN : xs.length ≤ 140737488355328) (hcap : xs.length ≤ c) (hlen : (Lib.join (xs.map (·.data.toList)) sep.data.toList).length ≤ 140737488355328) :
    Calls Tryd.prog 26 #[.slice (some ⟨bk, o, none⟩) xs.length c, .string sep] w fun e w' => e = .returned (.string ⟨(Lib.join (xs.map (·.data.toList)) sep.data.toList).toArray⟩) ∧ Below w.heap.size w w' := Any.strings_Join Tryd.lays156 Tryd.Builder_Extra_156 bk o c xs sep w hcells hbk hN hcap hlen
end Go.Proofs

namespace Go.Proofs.YtimdioacmojkeaaDoor
open Go.RowKit

namespace Nn
theorem errsF_len : ∀ (l : List Name) (i : Nat), errsF i l = 0 → i ≤ 8 → i + l.length ≤ 8
  | [], i, _, h => by simpa using h
  | s :: l, i, h, hi => by
    rw [errsF] at h
    split at h
    · simp at h
    split at h
    · rename_i q; exact absurd h q
    · have := errsF_len l (i + 1) h (by omega)
      simp only [List.length_cons]
      omega
theorem errs_len {l : List Name} (h : errs l = 0) : l.length ≤ 8 := by have := errsF_len l 0 h (by omega); omega
theorem tails_len : ∀ (l : List Name), (∀ s ∈ l, s.length ≤ 96) → (tails l).length ≤ 97 * l.length
  | [], _ => by simp [tails]
  | s :: l, h => by
    have h1 := h s (List.mem_cons_self ..)
    have h2 := tails_len l fun t ht => h t (List.mem_cons_of_mem _ ht)
    unfold tails at h2 ⊢
    simp only [List.flatMap_cons, List.length_append, List.length_cons]
    omega
theorem tails_few {l : List Name} (h : errs l = 0) : (tails l).length ≤ 776 := by
  have h1 := tails_len l fun s hs => nm_long (errs_ok h s hs)
  have h2 := errs_len h
  omega
theorem join_tails : ∀ (l : List Name), l ≠ [] → 47 :: Lib.join l [47] = tails l
  | [], h => absurd rfl h
  | [s], _ => by simp [Lib.join, tails, List.intercalate]
  | s :: t :: l, _ => by
    have ih := join_tails (t :: l) (by simp)
    unfold Lib.join at ih ⊢
    simp only [List.intercalate, List.intersperse_cons_cons, List.flatten_cons] at ih ⊢
    rw [show tails (s :: t :: l) = 47 :: s ++ tails (t :: l) from by simp [tails], ← ih]
    simp
end Nn

/-- a text of bytes -/
def St (l : List UInt8) : Value := .string ⟨l.toArray⟩
/-- what Join answers -/
def JnOut (L : List Nn.Name) (w : World) (e : Ending) (w' : World) : Prop :=
  e = .returned (.tuple #[St (Nn.join L).1, .int .i64 (Nn.join L).2]) ∧ Below w.heap.size w w'

theorem cat_slash (x : List UInt8) : (⟨#[47]⟩ : ByteArray) ++ ⟨x.toArray⟩ = ⟨(47 :: x).toArray⟩ := by
  apply ByteArray.ext
  apply Array.toList_inj.1
  simp

theorem Nn.join_few {L : List Nn.Name} (h0 : Nn.errs L = 0) : (Lib.join L [47]).length ≤ 776 := by
  by_cases hn : L = []
  · rw [hn]; simp [Lib.join, List.intercalate]
  · have h1 := Nn.join_tails L hn
    have h2 := Nn.tails_few h0
    rw [← h1] at h2
    simp only [List.length_cons] at h2
    omega
theorem jn_any (v : Value) (l : List ByteArray) (w : World) (h : Tx w v l) (h0 : Nn.errs (dl l) = 0) (hc : Cp v) :
    Calls Tryd.prog 26 #[v, .string ⟨#[47]⟩] w fun e w' => e = .returned (St (Lib.join (dl l) [47])) ∧ Below w.heap.size w w' := by
  rcases h.at_ with ⟨⟨a, c, rfl⟩, rfl⟩ | ⟨bk, o, cap, rfl, hbk, hcell⟩
  · refine (Tryd.strings_Join_none a c ⟨#[47]⟩ w).mono ?_
    rintro e w' ⟨rfl, rfl⟩
    exact ⟨rfl, Below.refl _ _⟩
  · have hlen := Nn.errs_len h0
    rw [dl_length] at hlen
    have hj : (Lib.join (dl l) [47]).length ≤ 140737488355328 := by have := Nn.join_few h0; omega
    refine Tryd.strings_Join bk o cap l ⟨#[47]⟩ w ?_ hbk (by omega) (hc _ _ _ rfl) hj
    intro j x hx
    have hjl := (List.getElem?_eq_some_iff.1 hx).1
    rw [hcell j hjl, List.getD_eq_getElem?_getD, hx]
    rfl
end Go.Proofs.YtimdioacmojkeaaDoor

namespace Go.Proofs.YtimdioacmojkeaaDoor
open Go.RowKit

/-- what stays while items are told behind others -/
structure Ri (base : Nat) (A B : World) : Prop where
  low : Below base A B
  kt : Kt 31 A B

theorem Ri.refl {base : Nat} (A : World) : Ri base A A := ⟨Below.refl _ _, Kt.refl _ _⟩

theorem Ri.trans {base : Nat} {A B C : World} (h : Ri base A B) (k : Ri base B C) : Ri base A C := ⟨h.low.trans k.low, h.kt.trans k.kt⟩

theorem Ri.of_below {base : Nat} {A B : World} (h : Below A.heap.size A B) (hb : base ≤ A.heap.size) : Ri base A B := ⟨h.mono hb, Kt.of_below h⟩

theorem Ri.size {base : Nat} {A B : World} (h : Ri base A B) : A.heap.size ≤ B.heap.size := h.kt.size

theorem NdG.kti {w W : World} {n : Nod} {c : List Value} (hk : Kt 31 w W) (h : NdG w n c) : NdG W n c := by
  obtain ⟨v, e, hr, ht, ho⟩ := h
  refine ⟨v, e, ⟨?_, hr.room⟩, fun a m c hv => ?_, ho⟩
  · rcases hr.at_ with h1 | ⟨bk, o, cap, h1, h2, h3⟩
    · exact .inl h1
    · obtain ⟨cur, fr, hb⟩ := ht _ _ _ h1
      have hb' := hk.cell hb (by decide)
      refine .inr ⟨bk, o, cap, h1, Nat.lt_of_lt_of_le h2 hk.size, fun j t hj r u hu => ?_⟩
      rw [← h3 j t hj r u hu]
      simp only [World.cell?, hb, hb']
  · obtain ⟨cur, fr, hb⟩ := ht _ _ _ hv
    exact ⟨cur, fr, hk.cell hb (by decide)⟩

theorem own_kti {base : Nat} {e : TypeId} {k : Nat} {v : Value} {n : Nat} {xs : List Value} {w w' : World} (h : w.ownsRow base e k v n xs) (hk : Kt 31 w w') (he : e ≠ 31) : w'.ownsRow base e k v n xs := by
  refine ⟨h.1, ?_⟩
  rcases h.2 with h' | ⟨g, cap, cur, rfl, h1, h2, h3⟩
  · exact .inl h'
  · exact .inr ⟨g, cap, cur, rfl, h1, hk.cell h2 he, h3⟩

/-- a text alone in a new row -/
def Ts1 (s : ByteArray) (u : Value) (W : World) : Prop := ∃ g, u = .slice (some ⟨g, 0, none⟩) 1 1 ∧ W.cell? ⟨g, 0, none⟩ = some (.string s)

theorem Ts1.mono {s : ByteArray} (u : Value) (w w' : World) (h : Ts1 s u w) (hg : Gw w w') : Ts1 s u w' := by
  obtain ⟨g, e, h⟩ := h
  exact ⟨g, e, (Below.cell hg (p := ⟨g, 0, none⟩) (World.block_lt_of_cell? w _ h)).trans h⟩

theorem Ts1.new (W : World) (s : ByteArray) : Ts1 s (.slice (some ⟨W.heap.size, 0, none⟩) 1 1) (W.alloc (.cells #[.string s] 9)) := ⟨_, rfl, by simp⟩

/-- a path as it was cloned -/
def Cl (b : Nat) (l : List ByteArray) (u : Value) (W : World) : Prop := W.ownsRow b 9 1 u l.length (l.map Tv)

theorem Cl.mono {b : Nat} {l : List ByteArray} (u : Value) (w w' : World) (h : Cl b l u w) (hg : Gw w w') : Cl b l u w' := own_below h hg

theorem join_name (w : World) (base : Nat) (v : Value) (l : List ByteArray) (o : w.ownsRow base 9 1 v l.length (l.map Tv)) (v2 : Value) (s : ByteArray) (h : Ts1 s v2 w) (hz : l.length ≤ 1000) (hbase : base ≤ w.heap.size) :
    ∃ v' w', (Builtin.append_ #[65, 65] 65 #[v, v2]).run Tryd.prog w = .ok v' w' ∧ w'.ownsRow base 9 1 v' (l ++ [s]).length ((l ++ [s]).map Tv) ∧ w.grownBy w' v.ownBlock := by
  obtain ⟨i0, hi, hz0, hz1, hz2⟩ := info_tis info_txt
  obtain ⟨g, rfl, hc⟩ := h
  obtain ⟨v', w', hr, ho, hg, _⟩ := run_append_own_at (P := Tryd.prog) w base 65 65 9 i0 (.string ⟨#[]⟩) 1 16 Tryd.underlying65 hi hz0 hz1 hz2 (by kernel_rfl) (by decide) v l.length _ o ⟨g, 0, none⟩ 1 1 [.string s] rfl
    (fun j u hu => by
      match j, hu with
      | 0, hu =>
        have : some (Value.string s) = some u := hu
        rw [← Option.some.inj this]
        rw [show ((⟨g, 0, none⟩ : Addr).add 0) = ⟨g, 0, none⟩ from by unfold Addr.add; split <;> simp_all]
        exact hc)
    (fun u hu => by rw [List.mem_singleton.1 hu]; rfl) (by unfold maxLen; omega) (by omega) hbase
  refine ⟨v', w', hr, ?_, hg⟩
  rw [List.length_append, List.map_append]
  exact ho

/-- append in a region that draws its order, by what it leaves -/
theorem wp_append_run {P : Program} {w : World} {o : Oper} {a : Act} {K : Act → World → Prop} {Q : Exit → Act → World → Prop} (s x : Operand) (t ty : TypeId)
    (ho : o.op = .call { callee := .builtin .append, args := #[s, x], argTypes := #[t, t] }) (hty : o.type = ty) (v u v' : Value) (w' : World) (hs : a.eval s = v) (hx : a.eval x = u)
    (hr : (Builtin.append_ #[t, t] ty #[v, u]).run P w = .ok v' w') (h : K (a.put o.dst v') w') : o.wp P a w K Q := by
  unfold Oper.wp
  simp [execOp, ho, resolve, invoke, builtin, hs, hx, hty, hr, Result.andThen]
  exact h

theorem tails_long : ∀ (l : List ByteArray), (∀ s ∈ l, s.size ≤ 1024) → (Nn.tails (dl l)).length ≤ 1025 * l.length
  | [], _ => by simp [dl, Nn.tails]
  | s :: l, h => by
    have ih := tails_long l fun t ht => h t (List.mem_cons_of_mem _ ht)
    have e : Nn.tails (dl (s :: l)) = 47 :: (s.data.toList ++ Nn.tails (dl l)) := rfl
    have hs := h s List.mem_cons_self
    rw [Lib.size_eq] at hs
    rw [e, List.length_cons, List.length_append, List.length_cons]
    omega

theorem jn2_any (v : Value) (l : List ByteArray) (w : World) (h : Tx w v l) (hc : Cp v) (hn : l ≠ []) (hl : l.length ≤ 9) (hs : ∀ s ∈ l, s.size ≤ 1024) (J : List UInt8) (hJ : J = Nn.tails (dl l)) :
    Calls Tryd.prog 26 #[v, .string ⟨#[47]⟩] w fun e w' => e = .returned (.string ⟨J.tail.toArray⟩) ∧ Below w.heap.size w w' := by
  have htl := tails_long l hs
  have hdn : dl l ≠ [] := fun e => hn (by have := congrArg List.length e; rw [dl_length] at this; exact List.length_eq_zero_iff.1 this)
  have hj0 : 47 :: Lib.join (dl l) [47] = Nn.tails (dl l) := Nn.join_tails (dl l) hdn
  have hjt : J.tail = Lib.join (dl l) [47] := by rw [hJ, ← hj0]; rfl
  rw [hjt]
  rcases h.at_ with ⟨⟨a, c, rfl⟩, rfl⟩ | ⟨bk, o, cap, rfl, hbk, hcell⟩
  · exact absurd rfl hn
  · have hj : (Lib.join (dl l) [47]).length ≤ 140737488355328 := by
      have := congrArg List.length hj0
      rw [List.length_cons] at this
      omega
    refine Tryd.strings_Join bk o cap l ⟨#[47]⟩ w ?_ hbk (by omega) (hc _ _ _ rfl) hj
    intro j x hx
    have hjl := (List.getElem?_eq_some_iff.1 hx).1
    rw [hcell j hjl, List.getD_eq_getElem?_getD, hx]
    rfl

end Go.Proofs.YtimdioacmojkeaaDoor

namespace Go.Proofs.YtimdioacmojkeaaDoor
open Go.RowKit
set_option maxRecDepth 4000

/-- what reapDir leans on: blobs, their IDs, the path -/
def Sd (vl vi pv : Value) (l : List Blb) (path : List ByteArray) (W : World) : Prop := Bx W vl l ∧ Rx 8 idC W vi ((pl l).map Pk.bid) ∧ Tx W pv path

def RRdOk (base : Nat) (vl vi : Value) (l : List Blb) (k : Nat) : Prop := ∀ (path : List ByteArray) (pv : Value) (id : Wk.Bs) (items : List Im) (iv : Value) (w : World), path.length + k = 9 → (∀ s ∈ path, s.size ≤ 1024) → id.length = 8 →
  w.ownsRow base 31 5 iv items.length (rowR imC items) → items.length ≤ 100 → base ≤ w.heap.size → (∀ W, Ri base w W → Sd vl vi pv l path W) → ∀ R, R = Wk.reapDir (pl l) k id (dl path) (its items) →
  Calls Tryd.prog 14 #[vl, vi, idV id, pv, iv] w fun e w' => ∃ iv', e = .returned (.tuple #[iv', .int .i64 R.2]) ∧ Ri base w w' ∧ (R.2 ≠ 0 → iv' = .slice none 0 0) ∧ (R.2 = 0 → ∃ items', its items' = R.1 ∧ w'.ownsRow base 31 5 iv' items'.length (rowR imC items') ∧ items'.length ≤ 100)


def set5 (W : World) (G : Nat) (x0 x1 x2 x3 x4 : Value) : World := ((((W.setCell ⟨G, 0, none⟩ x0).setCell ⟨G, 1, none⟩ x1).setCell ⟨G, 2, none⟩ x2).setCell ⟨G, 3, none⟩ x3).setCell ⟨G, 4, none⟩ x4

theorem five_set {W : World} {G : Nat} {y0 y1 y2 y3 y4 : Value} {T : TypeId} {fr : Nat × Nat} (h : W.heap[G]? = some (.cells #[y0, y1, y2, y3, y4] T fr)) (x0 x1 x2 x3 x4 : Value) :
    (set5 W G x0 x1 x2 x3 x4).heap[G]? = some (.cells #[x0, x1, x2, x3, x4] T fr) := by
  have h0 : (W.setCell ⟨G, 0, none⟩ x0).heap[G]? = some (.cells #[x0, y1, y2, y3, y4] T fr) := by simpa using set_at h 0 x0
  have h1 : ((W.setCell ⟨G, 0, none⟩ x0).setCell ⟨G, 1, none⟩ x1).heap[G]? = some (.cells #[x0, x1, y2, y3, y4] T fr) := by simpa using set_at h0 1 x1
  have h2 : (((W.setCell ⟨G, 0, none⟩ x0).setCell ⟨G, 1, none⟩ x1).setCell ⟨G, 2, none⟩ x2).heap[G]? = some (.cells #[x0, x1, x2, y3, y4] T fr) := by simpa using set_at h1 2 x2
  have h3 : ((((W.setCell ⟨G, 0, none⟩ x0).setCell ⟨G, 1, none⟩ x1).setCell ⟨G, 2, none⟩ x2).setCell ⟨G, 3, none⟩ x3).heap[G]? = some (.cells #[x0, x1, x2, x3, y4] T fr) := by simpa using set_at h2 3 x3
  have h4 : (((((W.setCell ⟨G, 0, none⟩ x0).setCell ⟨G, 1, none⟩ x1).setCell ⟨G, 2, none⟩ x2).setCell ⟨G, 3, none⟩ x3).setCell ⟨G, 4, none⟩ x4).heap[G]? = some (.cells #[x0, x1, x2, x3, x4] T fr) := by simpa using set_at h3 4 x4
  exact h4

theorem below_set5 {base : Nat} {A B : World} {G : Nat} (h : Below base A B) (hg : base ≤ G) (x0 x1 x2 x3 x4 : Value) : Below base A (set5 B G x0 x1 x2 x3 x4) :=
  ((((h.setCell hg _).setCell hg _).setCell hg _).setCell hg _).setCell hg _

theorem free5 {w : World} {b : Nat} {T : TypeId} {cur : Array Value} (h : w.heap[b]? = some (.cells cur T (0, 0))) : w.frozen? ⟨b, 0, none⟩ = false ∧ w.frozen? ⟨b, 1, none⟩ = false ∧ w.frozen? ⟨b, 2, none⟩ = false ∧ w.frozen? ⟨b, 3, none⟩ = false ∧ w.frozen? ⟨b, 4, none⟩ = false :=
  ⟨free_at h 0, free_at h 1, free_at h 2, free_at h 3, free_at h 4⟩

/-- a new item -/
def Iz (B : Nat) (u : Value) (W : World) : Prop := ∃ g, u = .pointer (some ⟨g, 0, none⟩) ∧ W.heap[g]? = some (.cells #[.string ⟨#[]⟩, .int .i64 0, .int .i64 0, .int .i64 0, .string ⟨#[]⟩] 31 (0, 0)) ∧ B ≤ g

theorem Iz.mono {B : Nat} (u : Value) (w w' : World) (h : Iz B u w) (hg : Gw w w') : Iz B u w' := by
  obtain ⟨g, e, h1, h2⟩ := h
  exact ⟨g, e, (Below.block hg g (Array.getElem?_eq_some_iff.1 h1).1).trans h1, h2⟩

theorem ownsRow_lower {w : World} {b b' : Nat} {e : TypeId} {k n : Nat} {v : Value} {xs : List Value} (h : w.ownsRow b e k v n xs) (hb : b' ≤ b) : w.ownsRow b' e k v n xs := by
  refine ⟨h.1, ?_⟩
  rcases h.2 with h' | ⟨g, cap, cur, rfl, h1, h2, h3⟩
  · exact .inl h'
  · exact .inr ⟨g, cap, cur, rfl, Nat.le_trans hb h1, h2, h3⟩

set_option maxHeartbeats 8000000 in
set_option maxRecDepth 20000 in
theorem rr_step (base : Nat) (vl vi : Value) (l : List Blb) (hsm : Sm l) (k : Nat) (ih : 1 ≤ k → RRdOk base vl vi l k) : RRdOk base vl vi l (k + 1) := by
  intro path pv id items iv w hpk hps hid ho hfew hbase hst R hR
  obtain ⟨b0, b1, b2, b3, b4, b5, b6, b7, rfl⟩ := eight id hid
  have eV : idV [b0, b1, b2, b3, b4, b5, b6, b7] = .agg #[.int .u8 (b0.toNat : Int), .int .u8 (b1.toNat : Int), .int .u8 (b2.toNat : Int), .int .u8 (b3.toNat : Int), .int .u8 (b4.toNat : Int), .int .u8 (b5.toNat : Int), .int .u8 (b6.toNat : Int), .int .u8 (b7.toNat : Int)] := rfl
  obtain ⟨W1, hW1⟩ : ∃ W1, W1 = w.alloc (.cells #[.int .u8 (b0.toNat : Int), .int .u8 (b1.toNat : Int), .int .u8 (b2.toNat : Int), .int .u8 (b3.toNat : Int), .int .u8 (b4.toNat : Int), .int .u8 (b5.toNat : Int), .int .u8 (b6.toNat : Int), .int .u8 (b7.toNat : Int)] 24) := ⟨_, rfl⟩
  have hb1 : Below w.heap.size w W1 := by rw [hW1]; exact (Below.refl _ w).alloc (Nat.le_refl _) _
  have HR1 : Hid (Ri base w W1) := Ri.of_below hb1 hbase
  have HB1 : Hid (Below w.heap.size w W1) := hb1
  have HI1 : Hid (I8 W1 w.heap.size [b0, b1, b2, b3, b4, b5, b6, b7]) := by rw [hW1]; exact I8.laid (heap_alloc_new w _)
  have HST : Hid (∀ W, Ri base w W → Sd vl vi pv l path W) := hst
  have HO : Hid (w.ownsRow base 31 5 iv items.length (rowR imC items) ∧ items.length ≤ 100 ∧ base ≤ w.heap.size) := ⟨ho, hfew, hbase⟩
  have HP : Hid (path.length + (k + 1) = 9 ∧ (∀ s ∈ path, s.size ≤ 1024)) := ⟨hpk, hps⟩
  obtain ⟨s1, s2, s3⟩ := hst W1 HR1.out
  have hbo := rblobOf_any vl vi l [b0, b1, b2, b3, b4, b5, b6, b7] 2 W1 s1 s2 rfl
  rw [eV] at hbo ⊢
  have hgl := blobOf_small hsm [b0, b1, b2, b3, b4, b5, b6, b7] 2
  have HRd : Hid (R = if (Wk.blobOf (pl l) [b0, b1, b2, b3, b4, b5, b6, b7] 2).2 ≠ 0 then ([], (Wk.blobOf (pl l) [b0, b1, b2, b3, b4, b5, b6, b7] 2).2) else if (Td.read (Wk.blobOf (pl l) [b0, b1, b2, b3, b4, b5, b6, b7] 2).1).2 ≠ 0 then ([], (Td.read (Wk.blobOf (pl l) [b0, b1, b2, b3, b4, b5, b6, b7] 2).1).2) else Wk.reapNodes (pl l) (Wk.reapDir (pl l) k) (dl path) (Td.read (Wk.blobOf (pl l) [b0, b1, b2, b3, b4, b5, b6, b7] 2).1).1 (its items)) := hR
  rcases hG : Wk.blobOf (pl l) [b0, b1, b2, b3, b4, b5, b6, b7] 2 with ⟨gs, GE⟩
  rw [hG] at hbo HRd hgl
  dsimp only at hbo HRd hgl
  obtain ⟨GS, hGS⟩ : ∃ GS : ByteArray, GS = ⟨gs.toArray⟩ := ⟨_, rfl⟩
  have hGd : gs = GS.data.toList := by rw [hGS]
  rw [← hGS] at hbo
  rw [hGd] at HRd
  have HGZ : Hid (GS.size ≤ 4096) := by show _ ≤ _; rw [Lib.size_eq, ← hGd]; exact hgl
  obtain ⟨y0, y1, y2, y3, y4, y5, y6, y7⟩ := HI1.out.cells
  obtain ⟨pa, pc, epv⟩ := s3.slice
  obtain ⟨PN, hPN⟩ : ∃ PN, PN = path.length := ⟨_, rfl⟩
  have HPN : Hid (PN = path.length) := hPN
  rw [← hPN] at epv
  subst epv
  clear hPN hR hG hGS hGd hgl hid hb1 s1 s2 s3 ho hfew hbase hst hpk hps eV
  go_enter Tryd.func14, Tryd.ntmps14
  go_upto_region 1 with fail
  rw [← hW1]
  generalize w.heap.size = p1 at y0 y1 y2 y3 y4 y5 y6 y7 ⊢
  clear hW1
  go_wp2_with fail
  refine hbo.mono ?_
  rintro e w2 ⟨rfl, b2⟩
  have HR2 : Hid (Ri base w w2) := HR1.out.trans (Ri.of_below b2 (Nat.le_trans HO.out.2.2 HR1.out.size))
  have HB2 : Hid (Below w.heap.size w w2) := HB1.out.trans (b2.mono HB1.out.size)
  clear hbo b2 y0 y1 y2 y3 y4 y5 y6 y7
  by_cases hE : GE = 0
  case neg =>
    have HRe : Hid (R = ([], GE) ∧ GE ≠ 0) := by refine ⟨?_, hE⟩; rw [HRd.out, if_pos hE]
    have hne : (GE != 0) = true := by rw [bne_iff_ne]; exact hE
    clear HRd hE
    go_wp2_with fail
    go_ret2
    exact ⟨_, by rw [HRe.out.1]; rfl, HR2.out, fun _ => rfl, fun e => by rw [HRe.out.1] at e; exact absurd e HRe.out.2⟩
  have HRd2 : Hid (R = if (Td.read GS.data.toList).2 ≠ 0 then ([], (Td.read GS.data.toList).2) else Wk.reapNodes (pl l) (Wk.reapDir (pl l) k) (dl path) (Td.read GS.data.toList).1 (its items)) := by show _ = _; rw [HRd.out, if_neg (fun q => q hE)]
  subst hE
  have htr := rtree_oy GS w2 (by have := HGZ.out; omega)
  unfold RtOy at htr
  obtain ⟨TR, hTR⟩ : ∃ TR, TR = Td.read GS.data.toList := ⟨_, rfl⟩
  have HTR : Hid (TR = Td.read GS.data.toList) := hTR
  rw [← hTR] at htr HRd2
  clear HRd hTR
  go_wp2_with fail
  refine htr.mono ?_
  rintro e w3 ⟨v3, ns, rfl, hns, hoy, hnl, hnn, b3⟩
  have HR3 : Hid (Ri base w w3) := HR2.out.trans (Ri.of_below b3 (Nat.le_trans HO.out.2.2 HR2.out.size))
  by_cases hE2 : TR.2 = 0
  case neg =>
    have HRe : Hid (R = ([], TR.2) ∧ TR.2 ≠ 0) := by refine ⟨?_, hE2⟩; rw [HRd2.out, if_pos hE2]
    have hne : (TR.2 != 0) = true := by rw [bne_iff_ne]; exact hE2
    generalize TR.2 = E at *
    obtain ⟨an, cn, rfl⟩ := hoy.ry.slice
    clear HRd2 hE2 htr hns hoy b3
    go_wp2_with fail
    go_ret2
    exact ⟨_, by rw [HRe.out.1]; rfl, HR3.out, fun _ => rfl, fun e => by rw [HRe.out.1] at e; exact absurd e HRe.out.2⟩
  have HE2 : Hid (TR.2 = 0) := hE2
  have HB3 : Hid (Below w.heap.size w w3) := HB2.out.trans (b3.mono HB2.out.size)
  have hchk : Td.check (nds ns) = 0 := by
    rw [hns]
    exact (Td.write_read (show Td.read GS.data.toList = (TR.1, 0) by rw [← HTR.out]; exact Prod.ext rfl hE2)).2.1
  have HNk : Hid (∀ n ∈ ns, Nk n ∧ n.name.size ≤ 1024) := fun n hn => ⟨nk_of hchk hn, hnn n hn⟩
  have HRN : Hid (R = Wk.reapNodes (pl l) (Wk.reapDir (pl l) k) (dl path) (nds (ns.drop 0)) (its items)) := by
    show _ = _
    rw [HRd2.out, if_neg (fun q => q hE2), List.drop_zero, hns]
  obtain ⟨an, cn, rfl⟩ := hoy.ry.slice
  have HNO : Hid (∀ W, Ri base w3 W → Oy 7 54 NdG w2.heap.size W (.slice an ns.length cn) ns) := fun W hW => hoy.kt hW.kt (by decide) fun _ _ q => NdG.kti hW.kt q
  obtain ⟨N, hN⟩ : ∃ N, N = ns.length := ⟨_, rfl⟩
  have HN : Hid (N = ns.length) := hN
  rw [← hN] at HNO hnl ⊢
  have HI3 : Hid (w3.ownsRow base 31 5 iv items.length (rowR imC items)) := own_below HO.out.1 HB3.out
  rw [hE2]
  clear HRd2 hE2 htr hns hoy b3 hnn hN hchk HB1 HB2 HR1 HR2
  clear HTR HE2 HI1 HGZ
  go_upto_region 8 with fail
  go_wp2_with fail
  go_loopw [4, 39] (fun u i wr => ∃ (j : Nat) (ij : List Im), j ≤ N ∧ i = .int .i64 j ∧ Hid (R = Wk.reapNodes (pl l) (Wk.reapDir (pl l) k) (dl path) (nds (ns.drop j)) (its ij)) ∧ Hid (wr.ownsRow base 31 5 u ij.length (rowR imC ij) ∧ ij.length ≤ 100) ∧ Hid (Ri base w3 wr)) (fun _ i _ => N - (intOf i).toNat)
  case atStart => exact ⟨0, items, by omega, rfl, HRN, ⟨HI3.out, HO.out.2.1⟩, Ri.refl _⟩
  case round =>
    clear HRN HI3
    obtain ⟨j, ij, hj, rfl, HRn, HIj, HRi⟩ := hrel
    have HRw : Hid (Ri base w wr) := HR3.out.trans HRi.out
    obtain ⟨ia, ic, rfl⟩ := own_form HIj.out.1
    by_cases hlt : j < N
    · have hjl : j < ns.length := by rw [← HN.out]; exact hlt
      obtain ⟨n, hx⟩ : ∃ n, ns[j]? = some n := ⟨_, List.getElem?_eq_getElem hjl⟩
      obtain ⟨hnk, hnz⟩ := HNk.out n (List.mem_of_getElem? hx)
      have HK : Hid (Nk n ∧ n.name.size ≤ 1024) := ⟨hnk, hnz⟩
      obtain ⟨kb, ko, cs, rfl, hkb, hcl, hng, hcell⟩ := (HNO.out wr HRi.out).ry.get j n hx
      obtain ⟨npv, ecs, hrx, hty, hno⟩ := hng
      subst ecs
      have hdrop : nds (ns.drop j) = n.nd :: nds (ns.drop (j + 1)) := by
        rw [List.drop_eq_getElem_cons hjl, (List.getElem?_eq_some_iff.1 hx).2]; rfl
      obtain ⟨S, hS⟩ : ∃ S, S = Wk.rstep (pl l) (Wk.reapDir (pl l) k) (dl path) n.nd (its ij) := ⟨_, rfl⟩
      have HS : Hid (S = Wk.rstep (pl l) (Wk.reapDir (pl l) k) (dl path) n.nd (its ij)) := hS
      have HRs : Hid (R = if S.2 ≠ 0 then ([], S.2) else Wk.reapNodes (pl l) (Wk.reapDir (pl l) k) (dl path) (nds (ns.drop (j + 1))) S.1) := by
        show _ = _
        rw [HRn.out, hdrop, Wk.rnodes_step, ← hS]
      obtain ⟨WB, hWB⟩ : ∃ WB, WB = wr.alloc (.cells (ndC n npv).toArray 54) := ⟨_, rfl⟩
      have hbB : Below wr.heap.size wr WB := by rw [hWB]; exact (Below.refl _ wr).alloc (Nat.le_refl _) _
      have HBB : Hid (Below wr.heap.size wr WB) := hbB
      have hbw : base ≤ wr.heap.size := Nat.le_trans HO.out.2.2 HRw.out.size
      have HnB : Hid (WB.heap[wr.heap.size]? = some (.cells (ndC n npv).toArray 54 (0, 0))) := by rw [hWB]; exact heap_alloc_new wr _
      have HNg : Hid (NdG wr n (ndC n npv)) := ⟨npv, rfl, hrx, hty, hno⟩
      obtain ⟨name, kind, mode, time, size, parts, link⟩ := n
      dsimp only [ndC] at *
      obtain ⟨qa, qc, eqc, _, _⟩ := hrx.slice
      subst eqc
      have x0 := hcell 0 _ rfl
      have x1 := hcell 1 _ rfl
      have x2 := hcell 2 _ rfl
      have x3 := hcell 3 _ rfl
      have x4 := hcell 4 _ rfl
      have x5 := hcell 5 _ rfl
      have x6 := hcell 6 _ rfl
      rw [Nat.add_zero] at x0
      obtain ⟨QL, hQL⟩ : ∃ QL, QL = parts.length := ⟨_, rfl⟩
      have HQL : Hid (QL = parts.length) := hQL
      obtain ⟨IN, hIN⟩ : ∃ IN, IN = ij.length := ⟨_, rfl⟩
      have HIN : Hid (IN = ij.length) := hIN
      have hIN100 : IN ≤ 100 := by rw [hIN]; exact HIj.out.2
      rw [← hQL] at x5 hWB HnB HNg
      rw [← hIN] at HIj ⊢
      obtain ⟨p, hp⟩ : ∃ p, p = wr.heap.size := ⟨_, rfl⟩
      have Hp : Hid (p = wr.heap.size) := hp
      have HWs : Hid (WB.heap.size = p + 1) := by show _ = _; rw [hWB, World.size_alloc, hp]
      clear hcell hdrop hrx hty hno hx hS hjl hbB HRn hcl hnk hnz hQL hIN
      go_upto_region 10 with fail
      rw [← hWB]
      rw [← hp] at HnB ⊢
      clear hp hWB x0 x1 x2 x3 x4 x5 x6
      obtain ⟨n0, n1, n2, n3, n4, n5, n6, nlt⟩ := sev_at HnB.out
      by_cases hdp : 8 ≤ PN
      · have hge : (PN : Int) ≥ 8 := by omega
        have HRe : Hid (R = ([], 14)) := by
          have e : S = ([], 14) := by rw [HS.out]; unfold Wk.rstep; rw [if_pos (by rw [dl_length, ← HPN.out]; exact hdp)]
          show _ = _
          rw [HRs.out, e, if_pos (by decide)]
        clear HRs HS
        go_wp2_with fail
        go_ret2
        exact ⟨_, by rw [HRe.out]; rfl, HRw.out.trans (Ri.of_below HBB.out hbw), fun _ => rfl, fun e => by rw [HRe.out] at e; cases e⟩
      have hge : ¬ (PN : Int) ≥ 8 := by omega
      by_cases hfl : 100 ≤ IN
      · have hge2 : (IN : Int) ≥ 100 := by omega
        have HRe : Hid (R = ([], 2)) := by
          have e : S = ([], 2) := by rw [HS.out]; unfold Wk.rstep; rw [if_neg (by rw [dl_length, ← HPN.out]; exact hdp), if_pos (by rw [its_length, ← HIN.out]; exact hfl)]
          show _ = _
          rw [HRs.out, e, if_pos (by decide)]
        clear HRs HS
        go_wp2_with fail
        go_ret2
        exact ⟨_, by rw [HRe.out]; rfl, HRw.out.trans (Ri.of_below HBB.out hbw), fun _ => rfl, fun e => by rw [HRe.out] at e; cases e⟩
      have hge2 : ¬ (IN : Int) ≥ 100 := by omega
      go_upto_region 14 with fail
      obtain ⟨path2, hP2⟩ : ∃ path2, path2 = path ++ [name] := ⟨_, rfl⟩
      have HP2 : Hid (path2 = path ++ [name]) := hP2
      have hP9 : path.length ≤ 8 := by have := HPN.out; omega
      have hclone : ∀ W, Gw WB W → Calls Tryd.prog 25 #[.slice pa PN pc] W fun e w' => ∃ v', e = .returned v' ∧ Cl WB.heap.size path v' w' ∧ Below W.heap.size W w' := fun W hW => by
        have hRW : Ri base w W := HRw.out.trans ((Ri.of_below HBB.out hbw).trans (Ri.of_below hW (Nat.le_trans hbw HBB.out.size)))
        refine (cloneT_any (.slice pa PN pc) path W (HST.out W hRW).2.2 (by omega)).mono fun e w' q => ?_
        obtain ⟨v', q1, q2, q3⟩ := q
        exact ⟨v', q1, ownsRow_lower q2 (Below.size hW), q3⟩
      refine wp_region_rel_tail (G := Gw) (W0 := WB) 5 2 Gw.refl Gw.trans (by kernel_rfl) (by decide) (by kernel_rfl) (by kernel_rfl) (.inr (by kernel_rfl)) (Below.refl _ WB).drew ?_
      refine .inl ⟨.slice pa PN pc, fun v W hW hd => step_run rfl _ W (by clear hd; go_simp) rfl (Gw.refl _), ?_⟩
      simp only [Act.put, List.setIfInBounds_toArray, List.set_cons_zero, List.set_cons_succ]
      refine .inr ⟨Cl WB.heap.size path, Cl.mono, fun v W hW hd => step_call rfl 25 #[.slice pa PN pc] (by clear hd; go_simp) ((hclone W hW).mono fun e w' ⟨v', h1, h2, h3⟩ => ⟨v', h1, h2, h3⟩), ?_⟩
      simp only [Act.put, List.setIfInBounds_toArray, List.set_cons_zero, List.set_cons_succ]
      refine .inl ⟨.pointer (some ⟨p, 0, none⟩), fun v W hW hd => step_run rfl _ W (by clear hd; go_simp) rfl (Gw.refl _), ?_⟩
      simp only [Act.put, List.setIfInBounds_toArray, List.set_cons_zero, List.set_cons_succ]
      refine .inl ⟨.string name, fun v W hW hd => step_run rfl _ W (by clear hd; obtain ⟨c0, _⟩ := sev_at ((Below.block hW _ (Array.getElem?_eq_some_iff.1 HnB.out).1).trans HnB.out); go_simp) rfl (Gw.refl _), ?_⟩
      simp only [Act.put, List.setIfInBounds_toArray, List.set_cons_zero, List.set_cons_succ]
      refine .inr ⟨Ts1 name, Ts1.mono, fun v W hW hd => step_run rfl _ (W.alloc (.cells #[.string name] 9)) (by clear hd; go_simp) (Ts1.new W name) ((Below.refl _ W).alloc (Nat.le_refl _) _), ?_⟩
      simp only [Act.put, List.setIfInBounds_toArray, List.set_cons_zero, List.set_cons_succ]
      intro v W4 hW4 hV
      have q1 : Cl WB.heap.size path (v 1) W4 := hV 1 (by decide)
      have q4 : Ts1 name (v 4) W4 := hV 4 (by decide)
      clear hV hclone
      simp only [Nat.reduceAdd]
      generalize v 1 = vc at *
      generalize v 4 = vn at *
      obtain ⟨v5, w5, hr5, ho5, hg5⟩ := join_name W4 WB.heap.size vc path q1 vn name q4 (by omega) (Below.size hW4)
      have HB5 : Hid (Below WB.heap.size WB w5) := (Below.mono hW4 (Nat.le_refl _)).grown hg5 (Below.size hW4) fun g hg => own_ge q1 hg
      have HO5 : Hid (w5.ownsRow WB.heap.size 9 1 v5 path2.length (path2.map Tv)) := by rw [hP2]; exact ho5
      clear q1 q4 hg5 ho5 hW4 hP2
      refine wpAny_ready (rs := [5]) (by kernel_rfl) (by simp) ?_
      refine AllReady.cons rfl (fun K hK => ?_) AllReady.nil
      rw [if_pos (by rfl)]
      refine wp_append_run (.tmp 50) (.tmp 53) 65 65 rfl rfl vc vn v5 w5 rfl rfl hr5 ?_
      simp only [Act.put, List.setIfInBounds_toArray]
      refine hK _ _ ?_
      clear hK K hr5
      refine wpAny_ready (rs := [6]) (by kernel_rfl) (by simp) ?_
      refine AllReady.cons rfl (fun K hK => ?_) AllReady.nil
      go_simp
      refine hK _ _ ?_
      clear hK K
      refine wpAny_done (by kernel_rfl) ?_ _
      have HA9 : Hid (Below wr.heap.size wr w5) := HBB.out.trans (HB5.out.mono HBB.out.size)
      have hp2n : path2.length = path.length + 1 := by rw [HP2.out, List.length_append]; rfl
      have HP2s : Hid (path2.length ≤ 9 ∧ path2 ≠ [] ∧ ∀ s ∈ path2, s.size ≤ 1024) := ⟨by omega, fun e => (by rw [e] at hp2n; cases hp2n), fun s hs => by
        rw [HP2.out] at hs
        rcases List.mem_append.1 hs with q | q
        · exact HP.out.2 s q
        · rw [List.mem_singleton.1 q]; exact HK.out.2⟩
      obtain ⟨JT, hJT⟩ : ∃ JT : ByteArray, JT = ⟨(Nn.tails (dl path2)).tail.toArray⟩ := ⟨_, rfl⟩
      have hjl := tails_long path2 HP2s.out.2.2
      have htn : 47 :: (Nn.tails (dl path2)).tail = Nn.tails (dl path2) := by
        rw [HP2.out]
        have : dl (path ++ [name]) ≠ [] := by simp [dl]
        rcases hd : dl (path ++ [name]) with _ | ⟨x, r⟩
        · exact absurd hd this
        · rfl
      obtain ⟨PS, hPS1, _, hPS3⟩ := wr_cat ⟨#[47]⟩ JT (by simp) (by rw [hJT]; simp; omega)
      have HPS : Hid (PS.data.toList = Nn.tails (dl path2)) := by
        show _ = _
        rw [hPS1, hJT, ← htn]
        rfl
      have hjoin : ∀ W, Gw w5 W → Calls Tryd.prog 26 #[v5, .string ⟨#[47]⟩] W fun e w' => e = .returned (.string JT) ∧ Below W.heap.size W w' := fun W hW => by
        have o := own_below HO5.out hW
        have := jn2_any v5 path2 W (Tx.of_own o) (Cp.of_own o) HP2s.out.2.1 HP2s.out.1 HP2s.out.2.2 _ rfl
        rw [← hJT] at this
        exact this
      have HnC : Hid (∀ W, Gw w5 W → W.cell? ⟨p, 0, none⟩ = some (.string name) ∧ W.cell? ⟨p, 1, none⟩ = some (.int .i64 kind) ∧ W.cell? ⟨p, 2, none⟩ = some (.int .i64 mode) ∧ W.cell? ⟨p, 3, none⟩ = some (.int .i64 time) ∧ W.cell? ⟨p, 4, none⟩ = some (.int .i64 size) ∧ W.cell? ⟨p, 5, none⟩ = some (.slice qa QL qc) ∧ W.cell? ⟨p, 6, none⟩ = some (.string link)) := fun W hW => by
        have h1 := (HB5.out.block _ (Array.getElem?_eq_some_iff.1 HnB.out).1).trans HnB.out
        have := sev_at ((Below.block hW _ (Array.getElem?_eq_some_iff.1 h1).1).trans h1)
        exact ⟨this.1, this.2.1, this.2.2.1, this.2.2.2.1, this.2.2.2.2.1, this.2.2.2.2.2.1, this.2.2.2.2.2.2.1⟩
      clear n0 n1 n2 n3 n4 n5 n6 nlt hPS1 hJT htn hjl hp2n
      go_upto_region 15 with fail
      refine wp_region_rel_tail (G := Gw) (W0 := w5) 13 1 Gw.refl Gw.trans (by kernel_rfl) (by decide) (by kernel_rfl) (by kernel_rfl) (.inr (by kernel_rfl)) (Below.refl _ w5).drew ?_
      refine .inl ⟨v5, fun v W hW hd => step_run rfl _ W (by clear hd; go_simp) rfl (Gw.refl _), ?_⟩
      simp only [Act.put, List.setIfInBounds_toArray, List.set_cons_zero, List.set_cons_succ]
      refine .inl ⟨.string JT, fun v W hW hd => step_call rfl 26 #[v5, .string ⟨#[47]⟩] (by clear hd; go_simp) ((hjoin W hW).mono fun e w' h => ⟨_, h.1, rfl, h.2⟩), ?_⟩
      simp only [Act.put, List.setIfInBounds_toArray, List.set_cons_zero, List.set_cons_succ]
      refine .inl ⟨.string PS, fun v W hW hd => step_run rfl _ W (by clear hd; go_simp) rfl (Gw.refl _), ?_⟩
      simp only [Act.put, List.setIfInBounds_toArray, List.set_cons_zero, List.set_cons_succ]
      refine .inl ⟨.pointer (some ⟨p, 1, none⟩), fun v W hW hd => step_run rfl _ W (by clear hd; go_simp) rfl (Gw.refl _), ?_⟩
      simp only [Act.put, List.setIfInBounds_toArray, List.set_cons_zero, List.set_cons_succ]
      refine .inl ⟨.int .i64 kind, fun v W hW hd => step_run rfl _ W (by clear hd; obtain ⟨c0, c1, c2, c3, c4, c5, c6⟩ := HnC.out W hW; go_simp) rfl (Gw.refl _), ?_⟩
      simp only [Act.put, List.setIfInBounds_toArray, List.set_cons_zero, List.set_cons_succ]
      refine .inl ⟨.pointer (some ⟨p, 2, none⟩), fun v W hW hd => step_run rfl _ W (by clear hd; go_simp) rfl (Gw.refl _), ?_⟩
      simp only [Act.put, List.setIfInBounds_toArray, List.set_cons_zero, List.set_cons_succ]
      refine .inl ⟨.int .i64 mode, fun v W hW hd => step_run rfl _ W (by clear hd; obtain ⟨c0, c1, c2, c3, c4, c5, c6⟩ := HnC.out W hW; go_simp) rfl (Gw.refl _), ?_⟩
      simp only [Act.put, List.setIfInBounds_toArray, List.set_cons_zero, List.set_cons_succ]
      refine .inl ⟨.pointer (some ⟨p, 3, none⟩), fun v W hW hd => step_run rfl _ W (by clear hd; go_simp) rfl (Gw.refl _), ?_⟩
      simp only [Act.put, List.setIfInBounds_toArray, List.set_cons_zero, List.set_cons_succ]
      refine .inl ⟨.int .i64 time, fun v W hW hd => step_run rfl _ W (by clear hd; obtain ⟨c0, c1, c2, c3, c4, c5, c6⟩ := HnC.out W hW; go_simp) rfl (Gw.refl _), ?_⟩
      simp only [Act.put, List.setIfInBounds_toArray, List.set_cons_zero, List.set_cons_succ]
      refine .inl ⟨.pointer (some ⟨p, 6, none⟩), fun v W hW hd => step_run rfl _ W (by clear hd; go_simp) rfl (Gw.refl _), ?_⟩
      simp only [Act.put, List.setIfInBounds_toArray, List.set_cons_zero, List.set_cons_succ]
      refine .inl ⟨.string link, fun v W hW hd => step_run rfl _ W (by clear hd; obtain ⟨c0, c1, c2, c3, c4, c5, c6⟩ := HnC.out W hW; go_simp) rfl (Gw.refl _), ?_⟩
      simp only [Act.put, List.setIfInBounds_toArray, List.set_cons_zero, List.set_cons_succ]
      refine .inl ⟨.agg #[.string PS, .int .i64 kind, .int .i64 mode, .int .i64 time, .string link], fun v W hW hd => step_run rfl _ W (by clear hd; go_simp) rfl (Gw.refl _), ?_⟩
      simp only [Act.put, List.setIfInBounds_toArray, List.set_cons_zero, List.set_cons_succ]
      refine .inr ⟨Iz w5.heap.size, Iz.mono, fun v W hW hd => step_run rfl _ (W.alloc (.cells #[.string ⟨#[]⟩, .int .i64 0, .int .i64 0, .int .i64 0, .string ⟨#[]⟩] 31)) (by clear hd; go_simp) ⟨_, rfl, heap_alloc_new W _, Below.size hW⟩ ((Below.refl _ W).alloc (Nat.le_refl _) _), ?_⟩
      simp only [Act.put, List.setIfInBounds_toArray, List.set_cons_zero, List.set_cons_succ]
      intro v W6 hW6 hV
      have h12 : Iz w5.heap.size (v 12) W6 := hV 12 (by decide)
      clear hV hjoin
      obtain ⟨X, e12, hX, hXge⟩ := h12
      simp only [Nat.reduceAdd]
      rw [e12]
      obtain ⟨z0, z1, z2, z3, z4, zlt⟩ := five_at hX
      obtain ⟨f0, f1, f2, f3, f4⟩ := free5 hX
      have hs5 := five_set hX (.string PS) (.int .i64 kind) (.int .i64 mode) (.int .i64 time) (.string link)
      have hB7 : Below w5.heap.size w5 (set5 W6 X (.string PS) (.int .i64 kind) (.int .i64 mode) (.int .i64 time) (.string link)) := below_set5 (Below.mono hW6 (Nat.le_refl _)) hXge _ _ _ _ _
      obtain ⟨W7, hW7⟩ : ∃ W7, W7 = set5 W6 X (.string PS) (.int .i64 kind) (.int .i64 mode) (.int .i64 time) (.string link) := ⟨_, rfl⟩
      rw [← hW7] at hs5 hB7
      have HX7 : Hid (W7.heap[X]? = some (.cells #[.string PS, .int .i64 kind, .int .i64 mode, .int .i64 time, .string link] 31 (0, 0))) := hs5
      have HB7 : Hid (Below wr.heap.size wr W7) := HA9.out.trans (hB7.mono HA9.out.size)
      have HO7 : Hid (W7.ownsRow WB.heap.size 9 1 v5 path2.length (path2.map Tv)) := own_below HO5.out hB7
      have Hn7 : Hid (W7.heap[p]? = some (.cells #[.string name, .int .i64 kind, .int .i64 mode, .int .i64 time, .int .i64 size, .slice qa QL qc, .string link] 54 (0, 0))) := by
        have h1 := (HB5.out.block _ (Array.getElem?_eq_some_iff.1 HnB.out).1).trans HnB.out
        exact (hB7.block _ (Array.getElem?_eq_some_iff.1 h1).1).trans h1
      have HXp : Hid (p < X ∧ wr.heap.size ≤ X) := by
        have h1 := (Array.getElem?_eq_some_iff.1 ((HB5.out.block _ (Array.getElem?_eq_some_iff.1 HnB.out).1).trans HnB.out)).1
        have h2 := Hp.out
        exact ⟨by omega, by omega⟩
      clear hs5 hB7 hXge hX e12 hW6 HO5 HA9 hPS3
      unfold set5 at hW7
      refine wpAny_ready (rs := [13]) (by kernel_rfl) (by simp) ?_
      refine AllReady.cons rfl (fun K hK => ?_) AllReady.nil
      rw [if_pos (by rfl)]
      go_simp
      rw [← hW7]
      clear hW7 z0 z1 z2 z3 z4 zlt f0 f1 f2 f3 f4
      refine hK _ _ ?_
      clear hK K
      refine wpAny_done (by kernel_rfl) ?_ _
      obtain ⟨d0, d1, d2, d3, d4, d5, d6, dlt⟩ := sev_at Hn7.out
      obtain ⟨t0, t1, t2, t3, t4, tlt⟩ := five_at HX7.out
      have HNg7 : Hid (NdG W7 ⟨name, kind, mode, time, size, parts, link⟩ [.string name, .int .i64 kind, .int .i64 mode, .int .i64 time, .int .i64 size, .slice qa QL qc, .string link]) :=
        HNg.out.keep HB7.out.size fun q cur fr ho => (HB7.out.block q (Array.getElem?_eq_some_iff.1 ho).1).trans ho
      obtain ⟨F, hF⟩ : ∃ F : Wk.Bs × Int, F = if kind = 1 then Wk.reapFile (pl l) size parts [] else (link.data.toList, 0) := ⟨_, rfl⟩
      have HF : Hid (F = if kind = 1 then Wk.reapFile (pl l) size parts [] else (link.data.toList, 0)) := hF
      have HSt : Hid (S = if F.2 ≠ 0 then ([], F.2) else if kind = 2 then Wk.reapDir (pl l) k (parts.headD []) (dl path2) (its ij ++ [Wk.item (dl path) (Nod.nd ⟨name, kind, mode, time, size, parts, link⟩) F.1]) else (its ij ++ [Wk.item (dl path) (Nod.nd ⟨name, kind, mode, time, size, parts, link⟩) F.1], 0)) := by
        show _ = _
        rw [HS.out]
        unfold Wk.rstep
        rw [if_neg (by rw [dl_length, ← HPN.out]; exact hdp), if_neg (by rw [its_length, ← HIN.out]; exact hfl)]
        have e2 : dl path2 = dl path ++ [name.data.toList] := by rw [HP2.out]; simp [dl]
        rw [e2, hF]
        rfl
      clear HS hF
      go_upto_if 69 with fail
      go_cut [13] from 40 to 103 (fun e wx => Hid (F.2 = 0) ∧ Hid (∃ BY : ByteArray, BY.data.toList = F.1 ∧ wx.heap[X]? = some (.cells #[.string PS, .int .i64 kind, .int .i64 mode, .int .i64 time, .string BY] 31 (0, 0))) ∧ Hid (Below wr.heap.size wr wx) ∧ Hid (wx.ownsRow WB.heap.size 9 1 v5 path2.length (path2.map Tv)) ∧ Hid (wx.heap[p]? = some (.cells #[.string name, .int .i64 kind, .int .i64 mode, .int .i64 time, .int .i64 size, .slice qa QL qc, .string link] 54 (0, 0))))
      case first =>
        by_cases hk1 : kind = 1
        · subst hk1
          have hF1 : F = Wk.reapFile (pl l) size parts [] := by rw [HF.out, if_pos rfl]
          have hRW : Ri base w W7 := HRw.out.trans (Ri.of_below HB7.out hbw)
          obtain ⟨hs1, hs2, _⟩ := HST.out W7 hRW
          obtain ⟨pv9, e9, hr9, _, ho9⟩ := HNg7.out
          cases e9
          have hfile := rreapFile_any vl vi (.slice qa QL qc) l ⟨name, 1, mode, time, size, parts, link⟩ W7 hs1 hs2 hsm hr9 ho9.ids HK.out.1.size.1 HK.out.1.size.2 HK.out.1.many F hF1
          dsimp only [ndC] at hfile
          have hfile' : Calls Tryd.prog 27 #[vl, vi, .agg #[.string name, .int .i64 1, .int .i64 mode, .int .i64 time, .int .i64 size, .slice qa QL qc, .string link]] W7 fun e w' => e = .returned (.tuple #[.string ⟨F.1.toArray⟩, .int .i64 F.2]) ∧ Below W7.heap.size W7 w' ∧ F.1.length ≤ 4096 := hfile
          obtain ⟨BY, hBY⟩ : ∃ BY : ByteArray, BY = ⟨F.1.toArray⟩ := ⟨_, rfl⟩
          have HBY : Hid (BY.data.toList = F.1) := by show _ = _; rw [hBY]
          rw [← hBY] at hfile'
          clear hBY hfile hr9 ho9 hs1 hs2 hF1
          go_wp2_with fail
          refine hfile'.mono ?_
          rintro e w8 ⟨rfl, b8, _⟩
          have hX8 := (b8.block _ (Array.getElem?_eq_some_iff.1 HX7.out).1).trans HX7.out
          have Hn8 : Hid (w8.heap[p]? = some (.cells #[.string name, .int .i64 1, .int .i64 mode, .int .i64 time, .int .i64 size, .slice qa QL qc, .string link] 54 (0, 0))) := (b8.block _ (Array.getElem?_eq_some_iff.1 Hn7.out).1).trans Hn7.out
          have HB8 : Hid (Below wr.heap.size wr w8) := HB7.out.trans (b8.mono HB7.out.size)
          have HO8 : Hid (w8.ownsRow WB.heap.size 9 1 v5 path2.length (path2.map Tv)) := own_below HO7.out b8
          have hf8 := free_at hX8 4
          obtain ⟨y0, y1, y2, y3, y4, ylt⟩ := five_at hX8
          obtain ⟨w9, hw9⟩ : ∃ w9, w9 = w8.setCell ⟨X, 4, none⟩ (.string BY) := ⟨_, rfl⟩
          have HX9 : Hid (w9.heap[X]? = some (.cells #[.string PS, .int .i64 1, .int .i64 mode, .int .i64 time, .string BY] 31 (0, 0))) := by
            show _ = _
            rw [hw9]
            simpa using set_at hX8 4 (.string BY)
          have HB9 : Hid (Below wr.heap.size wr w9) := by rw [hw9]; exact HB8.out.setCell HXp.out.2 _
          have HO9 : Hid (w9.ownsRow WB.heap.size 9 1 v5 path2.length (path2.map Tv)) := by
            rw [hw9]
            exact own_kti HO8.out (Kt.set hX8 4 _) (by decide)
          have Hn9 : Hid (w9.heap[p]? = some (.cells #[.string name, .int .i64 1, .int .i64 mode, .int .i64 time, .int .i64 size, .slice qa QL qc, .string link] 54 (0, 0))) := by
            show _ = _
            rw [hw9, Below.heap_setCell _ _ _ _ (by show p ≠ X; have := HXp.out.1; omega)]
            exact Hn8.out
          clear hfile' b8 d0 d1 d2 d3 d4 d5 d6 dlt t0 t1 t2 t3 t4 tlt hX8
          by_cases hE : F.2 = 0
          · rw [hE]
            have HE : Hid (F.2 = 0) := hE
            clear hE
            go_wp2_with fail
            rw [← hw9]
            go_meet
            exact ⟨HE, ⟨BY, HBY.out, HX9.out⟩, HB9, HO9, Hn9⟩
          · have hne : (F.2 != 0) = true := by rw [bne_iff_ne]; exact hE
            have HRe : Hid (R = ([], F.2) ∧ F.2 ≠ 0) := by
              have e : S = ([], F.2) := by rw [HSt.out, if_pos hE]
              refine ⟨?_, hE⟩
              rw [HRs.out, e, if_pos hE]
            have HRI : Hid (Ri base w w9) := HRw.out.trans (Ri.of_below HB9.out hbw)
            clear HRs HSt hE HF
            generalize F.2 = FE at *
            go_wp2_with fail
            rw [← hw9]
            go_ret2
            exact ⟨_, by rw [HRe.out.1]; rfl, HRI.out, fun _ => rfl, fun e => by rw [HRe.out.1] at e; exact absurd e HRe.out.2⟩
        · have hkb : (kind == 1) = false := by rw [beq_eq_false_iff_ne]; exact hk1
          have hF0 : F = (link.data.toList, 0) := by rw [HF.out, if_neg hk1]
          have HF0 : Hid (F.2 = 0 ∧ link.data.toList = F.1) := by rw [hF0]; exact ⟨rfl, rfl⟩
          clear hF0 hk1
          go_wp2_with fail
          go_meet
          exact ⟨HF0.out.1, ⟨link, HF0.out.2, HX7.out⟩, HB7, HO7, Hn7⟩
      case rest =>
      obtain ⟨HF0, HXc, HBc, HOc, Hnc⟩ := hcut
      obtain ⟨BY, hBY, hXc⟩ := HXc.out
      have HBY : Hid (BY.data.toList = F.1) := hBY
      have HXc' : Hid (wc.heap[X]? = some (.cells #[.string PS, .int .i64 kind, .int .i64 mode, .int .i64 time, .string BY] 31 (0, 0))) := hXc
      clear d0 d1 d2 d3 d4 d5 d6 dlt t0 t1 t2 t3 t4 tlt hBY HXc HB7 HX7 HO7 Hn7 HNg7
      obtain ⟨y0, y1, y2, y3, y4, ylt⟩ := five_at hXc
      clear hXc
      have hoc : wc.ownsRow base 31 5 (.slice ia IN ic) IN (rowR imC ij) := own_below HIj.out.1 HBc.out
      have hsw := HBc.out.size
      have HItx : Hid (its (ij ++ [⟨PS, kind, mode, time, BY⟩]) = its ij ++ [Wk.item (dl path) (Nod.nd ⟨name, kind, mode, time, size, parts, link⟩) F.1]) := by
        have e1 : PS.data.toList = Nn.joinB (dl path ++ [name.data.toList]) := by
          rw [Wk.joinB_tails (by simp), HPS.out, HP2.out]
          simp [dl]
        have e2 : (⟨PS, kind, mode, time, BY⟩ : Im).it = Wk.item (dl path) (Nod.nd ⟨name, kind, mode, time, size, parts, link⟩) F.1 := by
          show Wk.It.mk _ _ _ _ _ = Wk.It.mk _ _ _ _ _
          rw [e1, HBY.out]
          rfl
        show _ = _
        rw [← e2]
        simp [its]
      have HSi : Hid (S = if kind = 2 then Wk.reapDir (pl l) k (parts.headD []) (dl path2) (its (ij ++ [⟨PS, kind, mode, time, BY⟩])) else (its (ij ++ [⟨PS, kind, mode, time, BY⟩]), 0)) := by
        show _ = _
        rw [HSt.out, if_neg (fun q => q HF0.out), HItx.out]
      obtain ⟨ij2, hij2⟩ : ∃ ij2 : List Im, ij2 = ij ++ [⟨PS, kind, mode, time, BY⟩] := ⟨_, rfl⟩
      have HI2 : Hid (ij2 = ij ++ [⟨PS, kind, mode, time, BY⟩]) := hij2
      rw [← hij2] at HSi
      clear HSt HItx hij2 HXc' HF HF0 HBY HPS
      obtain ⟨i0, hi, hz0, hz1, hz2⟩ := info_parts info_itm
      have hbc : base ≤ wc.heap.size := Nat.le_trans hbw hsw
      go_wp2_with (at_builtin; refine wpList_append_own _ rfl (.tmp 81) (.tmp 83) 25 rfl base 31 i0 (.agg #[.string ⟨#[]⟩, .int .i64 0, .int .i64 0, .int .i64 0, .string ⟨#[]⟩]) 5 56 Tryd.underlying25 hi hz0 hz1 hz2 rfl (by decide) _ _ _ rfl (hoc.alloc _) ⟨wc.heap.size, 0, none⟩ 1 1 [.string PS, .int .i64 kind, .int .i64 mode, .int .i64 time, .string BY] rfl rfl (itm_at (by simp) (by simp) (by simp) (by simp) (by simp)) ?c2 ?c3 ?c4 ?c5 ?_)
      case c2 => simp [Value.oneCell']
      case c3 => unfold maxLen; omega
      case c4 => omega
      case c5 => first | omega | (simp; omega)
      intro v9 w9 hown9 hgrow _
      have hk9 : Kt 31 wc w9 := ((Kt.refl _ wc).alloc _).trans (Kt.of_grown hgrow fun g hg => by
        obtain ⟨cur, q, _⟩ := own_block (hoc.alloc _) hg
        exact ⟨cur, _, q⟩)
      have hb9 : Below base wr w9 := ((HBc.out.mono hbw).alloc hbc _).grown hgrow (by simp; omega) fun g hg => own_ge hoc hg
      have HR9 : Hid (Ri base wr w9) := ⟨hb9, (Kt.of_below HBc.out).trans hk9⟩
      have HI9 : Hid (w9.ownsRow base 31 5 v9 ij2.length (rowR imC ij2) ∧ ij2.length ≤ 100) := by
        rw [HI2.out]
        refine ⟨?_, by rw [List.length_append, ← HIN.out]; simp; omega⟩
        rw [List.length_append, ← HIN.out, rowR_more]
        exact hown9
      have HO9 : Hid (w9.ownsRow WB.heap.size 9 1 v5 path2.length (path2.map Tv)) := own_kti HOc.out hk9 (by decide)
      have Hn9 : Hid (w9.heap[p]? = some (.cells #[.string name, .int .i64 kind, .int .i64 mode, .int .i64 time, .int .i64 size, .slice qa QL qc, .string link] 54 (0, 0))) := hk9.cell Hnc.out (by decide)
      obtain ⟨va, vc, rfl⟩ := own_form hown9
      clear hown9 hgrow hk9 hb9 hoc HOc Hnc y0 y1 y2 y3 y4 ylt hsw HBc
      obtain ⟨d0, d1, d2, d3, d4, d5, d6, dlt⟩ := sev_at Hn9.out
      by_cases hk2 : kind = 2
      · subst hk2
        have hp1 := (HK.out.1.dir rfl).1
        have hp1 : parts.length = 1 := hp1
        rcases parts with _ | ⟨idp, _ | ⟨x, y⟩⟩
        · cases hp1
        case cons.cons => simp at hp1
        have hql : QL = 1 := HQL.out
        subst hql
        have hng9 := NdG.kti HR9.out.kt HNg.out
        obtain ⟨pv9, e9, hr9, _, ho9⟩ := hng9
        cases e9
        have hid8 := ho9.ids idp List.mem_cons_self
        obtain ⟨ib, io, rfl, hib, hcell⟩ := hr9.get 0 idp rfl
        obtain ⟨S2, hS2⟩ : ∃ S2, S2 = Wk.reapDir (pl l) k idp (dl path2) (its ij2) := ⟨_, rfl⟩
        have HRi9 : Hid (Ri base w w9) := HRw.out.trans HR9.out
        have hdir := ih (by have := HP.out.1; have := HPN.out; omega) path2 v5 idp ij2 _ w9 (by rw [HP2.out, List.length_append]; have := HP.out.1; simp; omega) HP2s.out.2.2 hid8 HI9.out.1 HI9.out.2 (Nat.le_trans hbw HR9.out.size) (fun W hW => by
          obtain ⟨g1, g2, _⟩ := HST.out W (HRi9.out.trans hW)
          exact ⟨g1, g2, Tx.of_own (own_kti HO9.out hW.kt (by decide))⟩) S2 hS2
        have HS2 : Hid (S = S2) := by
          show _ = _
          rw [HSi.out, if_pos rfl, hS2]
          rfl
        obtain ⟨b0', b1', b2', b3', b4', b5', b6', b7', rfl⟩ := eight idp hid8
        obtain ⟨x0, x1, x2, x3, x4, x5, x6, x7⟩ : w9.cell? ⟨ib, io, none⟩ = some (.int .u8 (b0'.toNat : Int)) ∧ w9.cell? ⟨ib, io + 1, none⟩ = some (.int .u8 (b1'.toNat : Int)) ∧ w9.cell? ⟨ib, io + 2, none⟩ = some (.int .u8 (b2'.toNat : Int)) ∧ w9.cell? ⟨ib, io + 3, none⟩ = some (.int .u8 (b3'.toNat : Int)) ∧
            w9.cell? ⟨ib, io + 4, none⟩ = some (.int .u8 (b4'.toNat : Int)) ∧ w9.cell? ⟨ib, io + 5, none⟩ = some (.int .u8 (b5'.toNat : Int)) ∧ w9.cell? ⟨ib, io + 6, none⟩ = some (.int .u8 (b6'.toNat : Int)) ∧ w9.cell? ⟨ib, io + 7, none⟩ = some (.int .u8 (b7'.toNat : Int)) := by
          have q := fun r u hu => hcell r u hu
          simp only [Nat.zero_mul, Nat.add_zero] at q
          exact ⟨q 0 _ rfl, q 1 _ rfl, q 2 _ rfl, q 3 _ rfl, q 4 _ rfl, q 5 _ rfl, q 6 _ rfl, q 7 _ rfl⟩
        have hdir' : Calls Tryd.prog 14 #[vl, vi, .agg #[.int .u8 (b0'.toNat : Int), .int .u8 (b1'.toNat : Int), .int .u8 (b2'.toNat : Int), .int .u8 (b3'.toNat : Int), .int .u8 (b4'.toNat : Int), .int .u8 (b5'.toNat : Int), .int .u8 (b6'.toNat : Int), .int .u8 (b7'.toNat : Int)], v5, .slice va (IN + 1) vc] w9 fun e w' => ∃ iv', e = .returned (.tuple #[iv', .int .i64 S2.2]) ∧ Ri base w9 w' ∧ (S2.2 ≠ 0 → iv' = .slice none 0 0) ∧ (S2.2 = 0 → ∃ items', its items' = S2.1 ∧ w'.ownsRow base 31 5 iv' items'.length (rowR imC items') ∧ items'.length ≤ 100) := hdir
        clear hdir hr9 ho9 hcell hid8 hp1 HSi hS2
        go_wp2_with fail
        refine hdir'.mono ?_
        rintro e wd ⟨ivd, rfl, fd, hz1', hz2'⟩
        have HZ : Hid (S2.2 = 0 → ∃ items', its items' = S2.1 ∧ wd.ownsRow base 31 5 ivd items'.length (rowR imC items') ∧ items'.length ≤ 100) := hz2'
        have HRd : Hid (Ri base w3 wd) := HRi.out.trans (HR9.out.trans fd)
        clear hdir' fd hz1' hz2' x0 x1 x2 x3 x4 x5 x6 x7 hib d0 d1 d2 d3 d4 d5 d6 dlt
        by_cases hE : S2.2 = 0
        · obtain ⟨ij', hi1, hi2, hi3⟩ := HZ.out hE
          have HRn : Hid (R = Wk.reapNodes (pl l) (Wk.reapDir (pl l) k) (dl path) (nds (ns.drop (j + 1))) (its ij')) := by
            show _ = _
            rw [HRs.out, HS2.out, if_neg (fun q => q hE), hi1]
          have HIj' : Hid (wd.ownsRow base 31 5 ivd ij'.length (rowR imC ij') ∧ ij'.length ≤ 100) := ⟨hi2, hi3⟩
          rw [hE]
          clear HRs HZ hi1 hi2 hi3 hE HS2
          go_wp2_with fail
          go_roundw
          case measure => simp only [intOf]; omega
          case rel =>
            exact ⟨j + 1, ij', by omega, by go_num, HRn, HIj', HRd⟩
        · have hne : (S2.2 != 0) = true := by rw [bne_iff_ne]; exact hE
          have HRe : Hid (R = ([], S2.2) ∧ S2.2 ≠ 0) := by
            refine ⟨?_, hE⟩
            rw [HRs.out, HS2.out, if_pos hE]
          clear HRs HZ hE HS2
          generalize S2.2 = ER at *
          go_wp2_with fail
          go_ret2
          exact ⟨_, by rw [HRe.out.1]; rfl, HR3.out.trans HRd.out, fun _ => rfl, fun e => by rw [HRe.out.1] at e; exact absurd e HRe.out.2⟩
      · have hkb2 : (kind == 2) = false := by rw [beq_eq_false_iff_ne]; exact hk2
        have HRn : Hid (R = Wk.reapNodes (pl l) (Wk.reapDir (pl l) k) (dl path) (nds (ns.drop (j + 1))) (its ij2)) := by
          have e : S = (its ij2, 0) := by rw [HSi.out, if_neg hk2]
          show _ = _
          rw [HRs.out, e, if_neg (fun q => q rfl)]
        have HRd : Hid (Ri base w3 w9) := HRi.out.trans HR9.out
        clear HRs hk2 HSi
        go_wp2_with fail
        go_roundw
        case measure => simp only [intOf]; omega
        case rel =>
          exact ⟨j + 1, ij2, by omega, by go_num, HRn, HI9, HRd⟩
    · obtain rfl : j = N := by omega
      have HRe : Hid (R = (its ij, 0)) := by
        have e : ns.drop j = [] := by rw [HN.out]; exact List.drop_of_length_le (Nat.le_refl _)
        show _ = _
        rw [HRn.out, e]; rfl
      clear HRn
      go_wp2_with fail
      go_ret2
      exact ⟨_, by rw [HRe.out]; rfl, HRw.out, fun e => by rw [HRe.out] at e; exact absurd rfl e, fun _ => ⟨ij, by rw [HRe.out], HIj.out.1, HIj.out.2⟩⟩

theorem rr_all {base : Nat} {vl vi : Value} {l : List Blb} (hsm : Sm l) : ∀ k, 1 ≤ k → RRdOk base vl vi l k
  | 0, h => by omega
  | k + 1, _ => rr_step base vl vi l hsm k fun h => rr_all hsm k h

end Go.Proofs.YtimdioacmojkeaaDoor

namespace Go.Proofs.YtimdioacmojkeaaDoor
open Go.RowKit
set_option maxRecDepth 4000

theorem clF_zero : ∀ (r done : List Pk.Bl), Wk.clF done r = 0 → ∀ x ∈ r, Pk.bErr x = 0
  | [], _, _, _, hx => absurd hx List.not_mem_nil
  | b :: r, done, h, x, hx => by
    rw [Wk.clF] at h
    split at h
    · rename_i q; exact absurd h q
    rename_i q
    split at h
    · cases h
    rcases List.mem_cons.1 hx with e | hx
    · rw [e]; exact Decidable.not_not.mp q
    · exact clF_zero r _ h x hx

theorem clF_bad {l : List Blb} {j : Nat} {x : Blb} (hx : l[j]? = some x) (h : Pk.bErr x.p ≠ 0) : Wk.clF (pl (l.take j)) (pl (l.drop j)) = Pk.bErr x.p := by
  obtain ⟨hj, e⟩ := List.getElem?_eq_some_iff.1 hx
  rw [List.drop_eq_getElem_cons hj, e]
  show Wk.clF _ (x.p :: _) = _
  rw [Wk.clF, if_pos h]

theorem clF_two {l : List Blb} {j : Nat} {x : Blb} (hx : l[j]? = some x) (h : Pk.bErr x.p = 0) {i : Nat} {q : Blb} (hi : i < j) (hq : l[i]? = some q) (hb : Pk.bid q.p = Pk.bid x.p) (hne : q ≠ x) : Wk.clF (pl (l.take j)) (pl (l.drop j)) = 11 := by
  obtain ⟨hj, e⟩ := List.getElem?_eq_some_iff.1 hx
  rw [List.drop_eq_getElem_cons hj, e]
  show Wk.clF _ (x.p :: _) = _
  have hm : q.p ∈ pl (l.take j) := List.mem_map_of_mem (List.mem_of_getElem? (i := i) (by rw [List.getElem?_take, if_pos hi]; exact hq))
  rw [Wk.clF, if_neg (fun q => q h), if_pos]
  rw [List.any_eq_true]
  refine ⟨q.p, hm, ?_⟩
  rw [Bool.and_eq_true, beq_iff_eq, decide_eq_true_eq]
  exact ⟨hb, fun e => hne (Blb.p_inj e)⟩

theorem clF_on {l : List Blb} {j : Nat} {x : Blb} (hx : l[j]? = some x) (h : Pk.bErr x.p = 0) (hno : ∀ i q, i < j → l[i]? = some q → ¬ (Pk.bid q.p = Pk.bid x.p ∧ q ≠ x)) : Wk.clF (pl (l.take j)) (pl (l.drop j)) = Wk.clF (pl (l.take (j + 1))) (pl (l.drop (j + 1))) := by
  obtain ⟨hj, e⟩ := List.getElem?_eq_some_iff.1 hx
  rw [List.drop_eq_getElem_cons hj, e, List.take_add_one, hx]
  show Wk.clF _ (x.p :: _) = _
  rw [Wk.clF, if_neg (fun q => q h), if_neg]
  · rw [Option.toList_some, pl_snoc]; rfl
  · rw [List.any_eq_true]
    rintro ⟨y, hy, e⟩
    rw [Bool.and_eq_true, beq_iff_eq, decide_eq_true_eq] at e
    obtain ⟨q, hq, rfl⟩ := List.mem_map.1 hy
    obtain ⟨i, hi⟩ := List.getElem?_of_mem hq
    rw [List.getElem?_take] at hi
    split at hi
    · rename_i hlt
      exact hno i q hlt hi ⟨e.1, fun k => e.2 (by rw [k])⟩
    · cases hi

theorem idc_at {W : World} {B : Nat} {v0 v1 v2 v3 v4 v5 v6 v7 : Value} (h0 : W.cell? ⟨B, 0, none⟩ = some v0) (h1 : W.cell? ⟨B, 1, none⟩ = some v1) (h2 : W.cell? ⟨B, 2, none⟩ = some v2) (h3 : W.cell? ⟨B, 3, none⟩ = some v3) (h4 : W.cell? ⟨B, 4, none⟩ = some v4) (h5 : W.cell? ⟨B, 5, none⟩ = some v5) (h6 : W.cell? ⟨B, 6, none⟩ = some v6) (h7 : W.cell? ⟨B, 7, none⟩ = some v7) :
    ∀ j u, [v0, v1, v2, v3, v4, v5, v6, v7][j]? = some u → W.cell? ((⟨B, 0, none⟩ : Addr).add j) = some u := by
  intro j u hj
  rw [Addr.add_mid, Nat.zero_add]
  match j, hj with
  | 0, hj => rw [h0]; exact hj
  | 1, hj => rw [h1]; exact hj
  | 2, hj => rw [h2]; exact hj
  | 3, hj => rw [h3]; exact hj
  | 4, hj => rw [h4]; exact hj
  | 5, hj => rw [h5]; exact hj
  | 6, hj => rw [h6]; exact hj
  | 7, hj => rw [h7]; exact hj

set_option maxHeartbeats 8000000 in
set_option maxRecDepth 20000 in
theorem rreap_any (v : Value) (l : List Blb) (root : Wk.Bs) (w : World) (h : Bx w v l) (hok : BOk l) (hr : root.length = 8) :
    Calls Tryd.prog 6 #[v, idV root] w (RpOut l root w) := by
  unfold RpOut
  obtain ⟨R, hR⟩ : ∃ R, R = Wk.reapP (pl l) root := ⟨_, rfl⟩
  rw [← hR]
  have HR : Hid (R = Wk.reapL (pl l) root) := by show _ = _; rw [hR, Wk.reapL_eq]
  obtain ⟨b0, b1, b2, b3, b4, b5, b6, b7, rfl⟩ := eight root hr
  have eV : idV [b0, b1, b2, b3, b4, b5, b6, b7] = .agg #[.int .u8 (b0.toNat : Int), .int .u8 (b1.toNat : Int), .int .u8 (b2.toNat : Int), .int .u8 (b3.toNat : Int), .int .u8 (b4.toNat : Int), .int .u8 (b5.toNat : Int), .int .u8 (b6.toNat : Int), .int .u8 (b7.toNat : Int)] := rfl
  rw [eV]
  obtain ⟨i0, hi, hz0, hz1, hz2⟩ := info_parts info_id
  obtain ⟨W1, hW1⟩ : ∃ W1, W1 = w.alloc (.cells #[.int .u8 (b0.toNat : Int), .int .u8 (b1.toNat : Int), .int .u8 (b2.toNat : Int), .int .u8 (b3.toNat : Int), .int .u8 (b4.toNat : Int), .int .u8 (b5.toNat : Int), .int .u8 (b6.toNat : Int), .int .u8 (b7.toNat : Int)] 24) := ⟨_, rfl⟩
  have HB1 : Hid (Below w.heap.size w W1) := by rw [hW1]; exact (Below.refl _ w).alloc (Nat.le_refl _) _
  have HI1 : Hid (I8 W1 w.heap.size [b0, b1, b2, b3, b4, b5, b6, b7]) := by rw [hW1]; exact I8.laid (heap_alloc_new w _)
  obtain ⟨va, vc, rfl, _, _⟩ := h.slice
  have HX : Hid (Bx w (.slice va l.length vc) l) := h
  have HK : Hid (BOk l) := hok
  obtain ⟨N, hN⟩ : ∃ N, N = l.length := ⟨_, rfl⟩
  have HN : Hid (N = l.length) := hN
  rw [← hN] at HX ⊢
  obtain ⟨p1, hp1⟩ : ∃ p1, p1 = w.heap.size := ⟨_, rfl⟩
  have HP1 : Hid (p1 = w.heap.size) := hp1
  clear h hok hr hR eV hN
  go_enter Tryd.func6, Tryd.ntmps6
  go_upto_region 1 with fail
  rw [← hW1]
  rw [← hp1] at HI1 ⊢
  clear hW1 hp1
  by_cases hbig : 1000 < N
  · have HRe : Hid (R = ([], 2)) := by
      show _ = _
      rw [HR.out]; unfold Wk.reapL
      rw [if_pos (by rw [pl, List.length_map, ← HN.out]; exact hbig)]
    have hgi : (N : Int) > 1000 := by omega
    clear HR
    go_wp2_with fail
    go_ret2
    exact ⟨_, by rw [HRe.out]; rfl, HB1.out, fun _ => rfl, fun e => by rw [HRe.out] at e; cases e⟩
  have hgi : ¬ (N : Int) > 1000 := by omega
  obtain ⟨CL, hCL⟩ : ∃ CL, CL = Wk.clF [] (pl l) := ⟨_, rfl⟩
  have HRl : Hid (R = if CL ≠ 0 then ([], CL) else Wk.reapDir (pl l) 9 [b0, b1, b2, b3, b4, b5, b6, b7] [] []) := by
    show _ = _
    rw [HR.out, hCL]; unfold Wk.reapL
    rw [if_neg (by rw [pl, List.length_map, ← HN.out]; exact hbig)]
  have HC0 : Hid (CL = Wk.clF (pl (l.take 0)) (pl (l.drop 0))) := hCL
  have HSm : Hid (CL = 0 → Sm l) := fun e x hx => by
    have := bErr_small (clF_zero (pl l) [] (by rw [← hCL]; exact e) x.p (List.mem_map_of_mem hx))
    rw [Lib.size_eq]
    exact this
  clear hCL HR
  go_wp2_with fail
  go_loopw [6, 17] (fun u i wr => ∃ (j : Nat), j ≤ N ∧ i = .int .i64 j ∧ Hid (CL = Wk.clF (pl (l.take j)) (pl (l.drop j))) ∧ Hid (wr.ownsRow W1.heap.size 24 8 u j (rowR idC ((pl (l.take j)).map Pk.bid))) ∧ Hid (Below W1.heap.size W1 wr)) (fun _ i _ => N - (intOf i).toNat)
  case atStart => exact ⟨0, by omega, rfl, HC0, World.ownsRow_nil _ _ _ _, Below.refl _ _⟩
  case round =>
    clear HC0
    obtain ⟨j, hj, rfl, HC, HO, HB⟩ := hrel
    have HBw : Hid (Below w.heap.size w wr) := HB1.out.trans (HB.out.mono HB1.out.size)
    obtain ⟨ia, ic, rfl⟩ := own_form HO.out
    have h8 : ∀ t ∈ (pl (l.take j)).map Pk.bid, t.length = 8 := fun t ht => by
      obtain ⟨b, _, rfl⟩ := List.mem_map.1 ht
      exact Pk.bid_length b
    have hln : j ≤ l.length := by rw [← HN.out]; exact hj
    have HXi : Hid (Rx 8 idC wr (.slice ia j ic) ((pl (l.take j)).map Pk.bid)) := rx_own HO.out (by rw [List.length_map, pl, List.length_map, List.length_take, Nat.min_eq_left hln]) h8
    by_cases hlt : j < N
    · have hjl : j < l.length := by rw [← HN.out]; exact hlt
      obtain ⟨x, hx⟩ : ∃ x, l[j]? = some x := ⟨_, List.getElem?_eq_getElem hjl⟩
      have HXJ : Hid (l[j]? = some x) := hx
      have hbx := HK.out x (List.mem_of_getElem? hx)
      obtain ⟨c0', c1', c2', c3', c4', c5', c6', c7', hL⟩ := eight _ (idOr_length x)
      have HL : Hid (idOr x = [c0', c1', c2', c3', c4', c5', c6', c7']) := hL
      have hid := fun W => rpid_any x W hbx.2
      rw [hL] at hid
      have hid' : ∀ W, Calls Tryd.prog 13 #[.agg #[.int .i64 x.kind, .string x.bytes]] W fun e w' => e = .returned (.tuple #[.agg #[.int .u8 (c0'.toNat : Int), .int .u8 (c1'.toNat : Int), .int .u8 (c2'.toNat : Int), .int .u8 (c3'.toNat : Int), .int .u8 (c4'.toNat : Int), .int .u8 (c5'.toNat : Int), .int .u8 (c6'.toNat : Int), .int .u8 (c7'.toNat : Int)], .int .i64 (Pk.bErr x.p)]) ∧ Below W.heap.size W w' := hid
      obtain ⟨bk, o, rfl, hbk, e0, e1⟩ := (HX.out.below HBw.out).blob j x hx
      obtain ⟨W2, hW2⟩ : ∃ W2, W2 = wr.alloc (.cells #[.int .i64 x.kind, .string x.bytes] 34) := ⟨_, rfl⟩
      have HB2 : Hid (Below wr.heap.size wr W2) := by rw [hW2]; exact (Below.refl _ wr).alloc (Nat.le_refl _) _
      have d0 : W2.cell? ⟨wr.heap.size, 0, none⟩ = some (.int .i64 x.kind) := by rw [hW2]; simp
      have d1 : W2.cell? ⟨wr.heap.size, 1, none⟩ = some (.string x.bytes) := by rw [hW2]; simp
      have hlt1 : wr.heap.size < W2.heap.size := by rw [hW2]; simp
      clear hL hid hx hbx h8 hln
      go_upto_region 7 with fail
      rw [← hW2]
      obtain ⟨p2, hp2⟩ : ∃ p2, p2 = wr.heap.size := ⟨_, rfl⟩
      have HP2 : Hid (p2 = wr.heap.size) := hp2
      rw [← hp2] at d0 d1 hlt1 ⊢
      clear hW2 hp2 e0 e1
      go_wp2_with fail
      refine (hid' _).mono ?_
      rintro e w3 ⟨rfl, b3⟩
      obtain ⟨W4, hW4⟩ : ∃ W4, W4 = w3.alloc (.cells #[.int .u8 (c0'.toNat : Int), .int .u8 (c1'.toNat : Int), .int .u8 (c2'.toNat : Int), .int .u8 (c3'.toNat : Int), .int .u8 (c4'.toNat : Int), .int .u8 (c5'.toNat : Int), .int .u8 (c6'.toNat : Int), .int .u8 (c7'.toNat : Int)] 24) := ⟨_, rfl⟩
      have hb34 : Below w3.heap.size w3 W4 := by rw [hW4]; exact (Below.refl _ w3).alloc (Nat.le_refl _) _
      have HI4 : Hid (I8 W4 w3.heap.size [c0', c1', c2', c3', c4', c5', c6', c7']) := by rw [hW4]; exact I8.laid (heap_alloc_new w3 _)
      have HB4 : Hid (Below wr.heap.size wr W4) := HB2.out.trans ((b3.trans (hb34.mono b3.size)).mono HB2.out.size)
      have HBw4 : Hid (Below w.heap.size w W4) := HBw.out.trans (HB4.out.mono HBw.out.size)
      have HB14 : Hid (Below W1.heap.size W1 W4) := HB.out.trans (HB4.out.mono HB.out.size)
      have HD : Hid (p2 < W4.heap.size ∧ W4.cell? ⟨p2, 0, none⟩ = some (.int .i64 x.kind) ∧ W4.cell? ⟨p2, 1, none⟩ = some (.string x.bytes)) := by
        have q2 : p2 < w3.heap.size := Nat.lt_of_lt_of_le hlt1 b3.size
        exact ⟨Nat.lt_of_lt_of_le q2 hb34.size, (hb34.cell (p := ⟨p2, 0, none⟩) q2).trans ((b3.cell (p := ⟨p2, 0, none⟩) hlt1).trans d0), (hb34.cell (p := ⟨p2, 1, none⟩) q2).trans ((b3.cell (p := ⟨p2, 1, none⟩) hlt1).trans d1)⟩
      clear b3 hb34 hid' d0 d1 hlt1 HB2
      go_upto_region 8 with fail
      rw [← hW4]
      obtain ⟨p3, hp3⟩ : ∃ p3, p3 = w3.heap.size := ⟨_, rfl⟩
      rw [← hp3] at HI4 ⊢
      clear hW4 hp3
      by_cases hE : Pk.bErr x.p = 0
      case neg =>
        have HRe : Hid (R = ([], Pk.bErr x.p) ∧ Pk.bErr x.p ≠ 0) := by
          refine ⟨?_, hE⟩
          have e := clF_bad HXJ.out hE
          rw [HRl.out, HC.out, e, if_pos hE]
        have hne : (Pk.bErr x.p != 0) = true := by rw [bne_iff_ne]; exact hE
        generalize Pk.bErr x.p = E at *
        clear HRl HC hE
        go_wp2_with fail
        go_ret2
        exact ⟨_, by rw [HRe.out.1]; rfl, HBw4.out, fun _ => rfl, fun e => by rw [HRe.out.1] at e; exact absurd e HRe.out.2⟩
      have HE : Hid (Pk.bErr x.p = 0) := hE
      have HIE : Hid (Pk.bid x.p = [c0', c1', c2', c3', c4', c5', c6', c7']) := by
        have e : idOr x = Pk.bid x.p := by unfold idOr; rw [if_pos hE]
        show _ = _
        rw [← e, HL.out]
      rw [hE]
      clear hE
      go_wp2_with fail
      go_loopw [31] (fun i wx => ∃ jj : Nat, jj ≤ j ∧ i = .int .i64 jj ∧ Hid (∀ i q, i < jj → l[i]? = some q → ¬ (Pk.bid q.p = Pk.bid x.p ∧ q ≠ x)) ∧ Hid (Below W4.heap.size W4 wx)) (fun i _ => j - (intOf i).toNat)
      case atStart => exact ⟨0, by omega, rfl, fun i q hi => absurd hi (by omega), Below.refl _ _⟩
      case round =>
        obtain ⟨jj, hjj, rfl, HNo, HBx⟩ := hrel
        have HIx : Hid (I8 wr p3 [c0', c1', c2', c3', c4', c5', c6', c7']) := HI4.out.below HBx.out HI4.out.lt
        by_cases hjk : jj < j
        · have hjl2 : jj < l.length := by omega
          obtain ⟨q, hq⟩ : ∃ q, l[jj]? = some q := ⟨_, List.getElem?_eq_getElem hjl2⟩
          have HQ : Hid (l[jj]? = some q) := hq
          have hq' : ((pl (l.take j)).map Pk.bid)[jj]? = some (Pk.bid q.p) := by
            rw [pl, List.map_map, List.getElem?_map, List.getElem?_take, if_pos hjk, hq]; rfl
          obtain ⟨kb, ko, rfl, hkb, hcell⟩ := (HXi.out.below (HB4.out.trans (HBx.out.mono HB4.out.size))).get jj _ hq'
          obtain ⟨q0, q1, q2, q3, q4, q5, q6, q7, hqe⟩ := eight _ (Pk.bid_length q.p)
          have HQE : Hid (Pk.bid q.p = [q0, q1, q2, q3, q4, q5, q6, q7]) := hqe
          rw [hqe] at hcell
          have x0 : wr.cell? ⟨kb, ko + jj * 8, none⟩ = some (.int .u8 (q0.toNat : Int)) := hcell 0 _ rfl
          have x1 : wr.cell? ⟨kb, ko + jj * 8 + 1, none⟩ = some (.int .u8 (q1.toNat : Int)) := hcell 1 _ rfl
          have x2 : wr.cell? ⟨kb, ko + jj * 8 + 2, none⟩ = some (.int .u8 (q2.toNat : Int)) := hcell 2 _ rfl
          have x3 : wr.cell? ⟨kb, ko + jj * 8 + 3, none⟩ = some (.int .u8 (q3.toNat : Int)) := hcell 3 _ rfl
          have x4 : wr.cell? ⟨kb, ko + jj * 8 + 4, none⟩ = some (.int .u8 (q4.toNat : Int)) := hcell 4 _ rfl
          have x5 : wr.cell? ⟨kb, ko + jj * 8 + 5, none⟩ = some (.int .u8 (q5.toNat : Int)) := hcell 5 _ rfl
          have x6 : wr.cell? ⟨kb, ko + jj * 8 + 6, none⟩ = some (.int .u8 (q6.toNat : Int)) := hcell 6 _ rfl
          have x7 : wr.cell? ⟨kb, ko + jj * 8 + 7, none⟩ = some (.int .u8 (q7.toNat : Int)) := hcell 7 _ rfl
          obtain ⟨z0, z1, z2, z3, z4, z5, z6, z7⟩ := HIx.out.cells
          obtain ⟨bk', o', hbo, hbk', e0, e1⟩ := (HX.out.below (HBw4.out.trans (HBx.out.mono HBw4.out.size))).blob jj q hq
          obtain ⟨rfl, rfl⟩ : bk = bk' ∧ o = o' := by simpa using hbo
          have f0 := (HBx.out.cell (p := ⟨p2, 0, none⟩) HD.out.1).trans HD.out.2.1
          have f1 := (HBx.out.cell (p := ⟨p2, 1, none⟩) HD.out.1).trans HD.out.2.2
          have hbb := fun W => bl_cmp W q x
          have HS : Hid (blSame q x = true ↔ q = x) := blSame_iff
          have hqb : ∀ W, (Op.equalIn 10000 24 (.agg #[.int .u8 (q0.toNat : Int), .int .u8 (q1.toNat : Int), .int .u8 (q2.toNat : Int), .int .u8 (q3.toNat : Int), .int .u8 (q4.toNat : Int), .int .u8 (q5.toNat : Int), .int .u8 (q6.toNat : Int), .int .u8 (q7.toNat : Int)]) (.agg #[.int .u8 (c0'.toNat : Int), .int .u8 (c1'.toNat : Int), .int .u8 (c2'.toNat : Int), .int .u8 (c3'.toNat : Int), .int .u8 (c4'.toNat : Int), .int .u8 (c5'.toNat : Int), .int .u8 (c6'.toNat : Int), .int .u8 (c7'.toNat : Int)])).run Tryd.prog W = .ok ([q0, q1, q2, q3, q4, q5, q6, q7] == [c0', c1', c2', c3', c4', c5', c6', c7']) W := fun W => id_eq W [q0, q1, q2, q3, q4, q5, q6, q7] [c0', c1', c2', c3', c4', c5', c6', c7'] rfl rfl
          have HMore : Hid (¬ (Pk.bid q.p = Pk.bid x.p ∧ q ≠ x) → ∀ i y, i < jj + 1 → l[i]? = some y → ¬ (Pk.bid y.p = Pk.bid x.p ∧ y ≠ x)) := fun hne i y hi hy => by
            by_cases e : i < jj
            · exact HNo.out i y e hy
            · obtain rfl : i = jj := by omega
              rw [HQ.out] at hy
              cases hy
              exact hne
          clear hcell hqe hq hq' hbo hjl2
          cases hb : ([q0, q1, q2, q3, q4, q5, q6, q7] == [c0', c1', c2', c3', c4', c5', c6', c7']) with
          | false =>
            rw [hb] at hqb
            have HN2 := HMore.out fun k => by
              have := k.1
              rw [HQE.out, HIE.out] at this
              rw [this] at hb
              simp at hb
            have HN2 : Hid (∀ i y, i < jj + 1 → l[i]? = some y → ¬ (Pk.bid y.p = Pk.bid x.p ∧ y ≠ x)) := HN2
            clear hb hbb HS HMore e0 e1 f0 f1 HIx
            go_wp2_with fail
            go_quiet (fail)
            clear x0 x1 x2 x3 x4 x5 x6 x7 z0 z1 z2 z3 z4 z5 z6 z7 hqb
            go_wp2_with fail
            go_roundw
            case rel => exact ⟨jj + 1, by omega, by go_num, HN2, Go.below_drewN HBx.out _⟩
            case measure => simp only [intOf]; omega
          | true =>
            rw [hb] at hqb
            have HBI : Hid (Pk.bid q.p = Pk.bid x.p) := by
              show _ = _
              rw [HQE.out, HIE.out]; exact eq_of_beq hb
            clear hb HIx
            generalize blSame q x = SM at *
            cases SM with
            | true =>
              have HN2 : Hid (∀ i y, i < jj + 1 → l[i]? = some y → ¬ (Pk.bid y.p = Pk.bid x.p ∧ y ≠ x)) := HMore.out fun k => k.2 (HS.out.1 (by first | exact trivial | rfl))
              clear HS HMore
              go_wp2_with fail
              go_quiet (fail)
              clear x0 x1 x2 x3 x4 x5 x6 x7 z0 z1 z2 z3 z4 z5 z6 z7 hqb hbb e0 e1 f0 f1
              go_wp2_with fail
              go_roundw
              case rel => exact ⟨jj + 1, by omega, by go_num, HN2, Go.below_drewN HBx.out _⟩
              case measure => simp only [intOf]; omega
            | false =>
              have HRe : Hid (R = ([], 11)) := by
                have hne : q ≠ x := fun e => by have := HS.out.2 e; cases this
                have e := clF_two HXJ.out HE.out hjk HQ.out HBI.out hne
                show _ = _
                rw [HRl.out, HC.out, e, if_pos (by decide)]
              have HBe : Hid (Below w.heap.size w wr) := HBw4.out.trans (HBx.out.mono HBw4.out.size)
              clear HS HMore HRl HC
              go_wp2_with fail
              go_quiet (fail)
              clear x0 x1 x2 x3 x4 x5 x6 x7 z0 z1 z2 z3 z4 z5 z6 z7 hqb hbb e0 e1 f0 f1
              go_wp2_with fail
              go_ret2
              exact ⟨_, by rw [HRe.out]; rfl, Go.below_drewN HBe.out _, fun _ => rfl, fun e => by rw [HRe.out] at e; cases e⟩
        · obtain rfl : jj = j := by omega
          have HC2 : Hid (CL = Wk.clF (pl (l.take (jj + 1))) (pl (l.drop (jj + 1)))) := by
            have e := clF_on HXJ.out HE.out HNo.out
            show _ = _
            rw [HC.out, e]
          have hoc := own_below HO.out (HB4.out.trans (HBx.out.mono HB4.out.size))
          have HB9 : Hid (Below W1.heap.size W1 wr) := HB14.out.trans (HBx.out.mono HB14.out.size)
          have hsw : W1.heap.size ≤ wr.heap.size := HB9.out.size
          have HBw9 : Hid (Below w.heap.size w wr) := HBw4.out.trans (HBx.out.mono HBw4.out.size)
          obtain ⟨z0, z1, z2, z3, z4, z5, z6, z7⟩ := HIx.out.cells
          clear HC HNo hjk
          go_wp2_with (at_builtin; refine wpList_append_own _ rfl (.tmp 49) (.tmp 51) 35 rfl W1.heap.size 24 i0 (.agg #[.int .u8 0, .int .u8 0, .int .u8 0, .int .u8 0, .int .u8 0, .int .u8 0, .int .u8 0, .int .u8 0]) 8 8 Tryd.underlying35 hi hz0 hz1 hz2 rfl (by decide) _ _ _ rfl (hoc.alloc _) ⟨wr.heap.size, 0, none⟩ 1 1 [.int .u8 (c0'.toNat : Int), .int .u8 (c1'.toNat : Int), .int .u8 (c2'.toNat : Int), .int .u8 (c3'.toNat : Int), .int .u8 (c4'.toNat : Int), .int .u8 (c5'.toNat : Int), .int .u8 (c6'.toNat : Int), .int .u8 (c7'.toNat : Int)] rfl rfl ?c1 ?c2 ?c3 ?c4 ?c5 ?_)
          case c1 => exact idc_at (by simp) (by simp) (by simp) (by simp) (by simp) (by simp) (by simp) (by simp)
          case c2 => simp [Value.oneCell']
          case c3 => unfold maxLen; omega
          case c4 => omega
          case c5 => first | omega | (simp; omega)
          intro v9 w9 hown9 hgrow _
          have HB19 : Hid (Below W1.heap.size W1 w9) := (HB9.out.alloc HB9.out.size _).grown hgrow (by have := HB9.out.size; simp; omega) fun g hg => own_ge hoc hg
          have HO9 : Hid (w9.ownsRow W1.heap.size 24 8 v9 (jj + 1) (rowR idC ((pl (l.take (jj + 1))).map Pk.bid))) := by
            have e : (pl (l.take (jj + 1))).map Pk.bid = (pl (l.take jj)).map Pk.bid ++ [[c0', c1', c2', c3', c4', c5', c6', c7']] := by
              rw [List.take_add_one, HXJ.out, Option.toList_some, pl_snoc, List.map_append, ← HIE.out]; rfl
            show _
            rw [e, rowR_more]
            exact hown9
          clear hown9 hgrow z0 z1 z2 z3 z4 z5 z6 z7 hoc
          go_wp2_with fail
          go_roundw
          case rel => exact ⟨jj + 1, by omega, by go_num, HC2, HO9, HB19⟩
          case measure => simp only [intOf]; omega
    · obtain rfl : j = N := by omega
      have e1 : l.take j = l := List.take_of_length_le (by rw [← HN.out]; exact Nat.le_refl _)
      have e2 : l.drop j = [] := by rw [HN.out]; exact List.drop_of_length_le (Nat.le_refl _)
      have hC : CL = 0 := by rw [HC.out, e2]; rfl
      have hsm := HSm.out hC
      have hRr : R = Wk.reapDir (pl l) 9 [b0, b1, b2, b3, b4, b5, b6, b7] [] [] := by rw [HRl.out, if_neg (fun q => q hC)]
      rw [e1] at HXi
      have hdir := rr_all hsm 9 (by decide) (base := wr.heap.size) (vl := .slice va j vc) (vi := .slice ia j ic) [] (.slice none 0 0) [b0, b1, b2, b3, b4, b5, b6, b7] [] (.slice none 0 0) wr rfl (fun s hs => absurd hs List.not_mem_nil) rfl (World.ownsRow_nil _ _ _ _) (by simp) (Nat.le_refl _) (fun W hW => ⟨HX.out.below (HBw.out.trans (hW.low.mono HBw.out.size)), HXi.out.below hW.low, ⟨.inl ⟨⟨_, _, rfl⟩, rfl⟩⟩⟩) R hRr
      have hdir' : Calls Tryd.prog 14 #[.slice va j vc, .slice ia j ic, .agg #[.int .u8 (b0.toNat : Int), .int .u8 (b1.toNat : Int), .int .u8 (b2.toNat : Int), .int .u8 (b3.toNat : Int), .int .u8 (b4.toNat : Int), .int .u8 (b5.toNat : Int), .int .u8 (b6.toNat : Int), .int .u8 (b7.toNat : Int)], .slice none 0 0, .slice none 0 0] wr fun e w' => ∃ iv', e = .returned (.tuple #[iv', .int .i64 R.2]) ∧ Ri wr.heap.size wr w' ∧ (R.2 ≠ 0 → iv' = .slice none 0 0) ∧ (R.2 = 0 → ∃ items', its items' = R.1 ∧ w'.ownsRow wr.heap.size 31 5 iv' items'.length (rowR imC items') ∧ items'.length ≤ 100) := hdir
      obtain ⟨y0, y1, y2, y3, y4, y5, y6, y7⟩ := (HI1.out.below HB.out HI1.out.lt).cells
      clear hdir hRr hsm hC e1 e2 HRl HSm HC HO HXi
      go_wp2_with fail
      refine hdir'.mono ?_
      rintro e w9 ⟨iv9, rfl, f9, hz1', hz2'⟩
      have HZ : Hid (Below w.heap.size w w9 ∧ (R.2 ≠ 0 → iv9 = .slice none 0 0) ∧ (R.2 = 0 → ∃ items', its items' = R.1 ∧ w9.ownsRow w.heap.size 31 5 iv9 items'.length (rowR imC items') ∧ items'.length ≤ 100)) :=
        ⟨HBw.out.trans (f9.low.mono HBw.out.size), hz1', fun e => by
          obtain ⟨it, g1, g2, g3⟩ := hz2' e
          exact ⟨it, g1, ownsRow_lower g2 HBw.out.size, g3⟩⟩
      clear hdir' f9 hz1' hz2' y0 y1 y2 y3 y4 y5 y6 y7
      go_wp2_with fail
      go_ret2
      exact ⟨_, rfl, HZ.out⟩
end Go.Proofs.YtimdioacmojkeaaDoor

namespace Go.Proofs.YtimdioacmojkeaaDoor
open Go.RowKit
set_option maxRecDepth 4000

theorem eqf_nil {P : Program} (W : World) (d : Nat) (xs ys : Array Value) : (Op.eqFields d xs ys []).run P W = .ok true W := by
  simp only [Op.eqFields, Sem.run_pure]

theorem eqf_cons {P : Program} (W : World) (d : Nat) (xs ys : Array Value) (f : Field) (fs : List Field) (v u : Value) (a b : Bool) (n : f.name ≠ "_")
    (p : (part f.type xs f.offset).run P W = .ok v W) (q : (part f.type ys f.offset).run P W = .ok u W) (e : (Op.equalIn d f.type v u).run P W = .ok a W) (h : (Op.eqFields d xs ys fs).run P W = .ok b W) :
    (Op.eqFields d xs ys (f :: fs)).run P W = .ok (a && b) W := by
  cases a <;> simp only [Op.eqFields, if_pos n, Sem.run_bind, p, q, Result.andThen_ok, e, Bool.not_true, Bool.not_false, Bool.false_eq_true, if_false, if_true, Sem.run_pure, Bool.true_and, Bool.false_and, h]

theorem fields_it : ∃ f0 f1 f2 f3 f4, (Tryd.prog.fieldsOf 31).toList = [f0, f1, f2, f3, f4] ∧ f0.type = 9 ∧ f0.offset = 0 ∧ f0.name ≠ "_" ∧ f1.type = 3 ∧ f1.offset = 1 ∧ f1.name ≠ "_" ∧ f2.type = 3 ∧ f2.offset = 2 ∧ f2.name ≠ "_" ∧ f3.type = 3 ∧ f3.offset = 3 ∧ f3.name ≠ "_" ∧ f4.type = 9 ∧ f4.offset = 4 ∧ f4.name ≠ "_" := by
  rw [show (Tryd.prog.fieldsOf 31) = _ from by unfold Program.fieldsOf; rw [Tryd.underlying31]]
  exact ⟨_, _, _, _, _, rfl, rfl, rfl, by decide, rfl, rfl, by decide, rfl, rfl, by decide, rfl, rfl, by decide, rfl, rfl, by decide⟩

/-- are two items the same? -/
def imSame (a b : Im) : Bool := (a.path.toList == b.path.toList) && ((a.kind == b.kind) && ((a.mode == b.mode) && ((a.time == b.time) && ((a.bytes.toList == b.bytes.toList) && true))))

theorem imSame_iff {a b : Im} : imSame a b = true ↔ a = b := by
  constructor
  · intro h
    simp only [imSame, Bool.and_eq_true, beq_iff_eq, Lib.toList_data] at h
    obtain ⟨h0, h1, h2, h3, h4, _⟩ := h
    refine Im.it_inj ?_
    simp only [Im.it, h0, h1, h2, h3, h4]
  · rintro rfl
    simp [imSame]

theorem it_cmp_at (d : Nat) (W : World) (a b : Im) :
    (Op.equalIn (d + 1 + 1) 31 (imV a) (imV b)).run Tryd.prog W = .ok (imSame a b) W := by
  have hp : Tryd.prog.stoodInHeld 31 = false := by kernel_rfl
  have hf : Tryd.prog.underlying 31 = some (.struct (Tryd.prog.fieldsOf 31)) := by kernel_rfl
  obtain ⟨f0, f1, f2, f3, f4, hfs, t0, o0, n0, t1, o1, n1, t2, o2, n2, t3, o3, n3, t4, o4, n4⟩ := fields_it
  have hs : ∀ s t : ByteArray, (Op.equalIn (d + 1) 9 (.string s) (.string t)).run Tryd.prog W = .ok (s.toList == t.toList) W := fun s t => run_equalIn_string (P := Tryd.prog) W d 9 s t (by kernel_rfl)
  have hi : ∀ x y : Int, (Op.equalIn (d + 1) 3 (.int .i64 x) (.int .i64 y)).run Tryd.prog W = .ok (x == y) W := fun x y => run_equalIn_int W d 3 .i64 .i64 x y (by kernel_rfl)
  rw [run_equalIn_struct W (d + 1) 31 _ _ hf hp, hfs]
  refine eqf_cons W (d + 1) _ _ f0 _ (.string a.path) (.string b.path) _ _ n0 (by rw [t0, o0]; simp [part, go_sem]) (by rw [t0, o0]; simp [part, go_sem]) (by rw [t0]; exact hs _ _) ?_
  refine eqf_cons W (d + 1) _ _ f1 _ (.int .i64 a.kind) (.int .i64 b.kind) _ _ n1 (by rw [t1, o1]; simp [part, go_sem]) (by rw [t1, o1]; simp [part, go_sem]) (by rw [t1]; exact hi _ _) ?_
  refine eqf_cons W (d + 1) _ _ f2 _ (.int .i64 a.mode) (.int .i64 b.mode) _ _ n2 (by rw [t2, o2]; simp [part, go_sem]) (by rw [t2, o2]; simp [part, go_sem]) (by rw [t2]; exact hi _ _) ?_
  refine eqf_cons W (d + 1) _ _ f3 _ (.int .i64 a.time) (.int .i64 b.time) _ _ n3 (by rw [t3, o3]; simp [part, go_sem]) (by rw [t3, o3]; simp [part, go_sem]) (by rw [t3]; exact hi _ _) ?_
  refine eqf_cons W (d + 1) _ _ f4 _ (.string a.bytes) (.string b.bytes) _ _ n4 (by rw [t4, o4]; simp [part, go_sem]) (by rw [t4, o4]; simp [part, go_sem]) (by rw [t4]; exact hs _ _) ?_
  exact eqf_nil W (d + 1) _ _

theorem it_cmp (W : World) (a b : Im) : (Op.equalIn 10000 31 (.agg #[.string a.path, .int .i64 a.kind, .int .i64 a.mode, .int .i64 a.time, .string a.bytes]) (.agg #[.string b.path, .int .i64 b.kind, .int .i64 b.mode, .int .i64 b.time, .string b.bytes])).run Tryd.prog W = .ok (imSame a b) W := it_cmp_at 9998 W a b

set_option maxHeartbeats 2000000 in
theorem equal_items (v1 v2 : Value) (l m : List Im) (w : World) (h1 : Ims w v1 l) (h2 : Ims w v2 m) (hl : l.length ≤ 140737488351232) :
    Calls Tryd.prog 7 #[v1, v2] w fun e w' => ∃ b : Bool, e = .returned (.bool b) ∧ (b = true ↔ l = m) ∧ Below w.heap.size w w' := by
  obtain ⟨a1, c1, rfl, j1, j2⟩ := h1.slice
  obtain ⟨a2, c2, rfl, j3, j4⟩ := h2.slice
  clear j1 j2 j3 j4
  obtain ⟨n1, hn1⟩ : ∃ n, n = l.length := ⟨_, rfl⟩
  obtain ⟨n2, hn2⟩ : ∃ n, n = m.length := ⟨_, rfl⟩
  have HN1 : Hid (n1 = l.length) := hn1
  have HN2 : Hid (n2 = m.length) := hn2
  rw [← hn1] at h1 hl ⊢
  rw [← hn2] at h2 ⊢
  clear hn1 hn2
  by_cases hq : n1 = n2
  case neg =>
    have hb : ((n1 : Int) != (n2 : Int)) = true := by rw [bne_iff_ne]; omega
    have HF : Hid (l ≠ m) := by rintro rfl; exact hq (HN1.out.trans HN2.out.symm)
    clear hq h1 h2
    go_enter Tryd.func7, Tryd.ntmps7
    go_wp2_with fail
    go_ret
    exact ⟨false, rfl, ⟨fun q => absurd q (by decide), fun q => absurd q HF.out⟩, Below.refl _ _⟩
  subst hq
  have hb : ((n1 : Int) != (n1 : Int)) = false := by simp
  go_enter Tryd.func7, Tryd.ntmps7
  go_wp2_with fail
  clear hb
  go_loopw [13] (fun i wr => ∃ k : Nat, k ≤ n1 ∧ i = .int .i64 k ∧ l.take k = m.take k ∧ Below w.heap.size w wr) (fun i _ => n1 - (intOf i).toNat)
  case atStart => exact ⟨0, by omega, rfl, rfl, Below.refl _ _⟩
  case round =>
    obtain ⟨k, hk, rfl, hpre, hbel⟩ := hrel
    have HP : Hid (l.take k = m.take k) := hpre
    clear hpre
    by_cases hlt : k < n1
    · obtain ⟨t, ht⟩ : ∃ t, l[k]? = some t := ⟨_, List.getElem?_eq_getElem (by have := HN1.out; omega)⟩
      obtain ⟨u, hu⟩ : ∃ u, m[k]? = some u := ⟨_, List.getElem?_eq_getElem (by have := HN2.out; omega)⟩
      obtain ⟨bk, o, rfl, hbk, c0, c1, c2, c3, c4⟩ := (h1.below hbel).item k t ht
      obtain ⟨bk', o', rfl, hbk', d0, d1, d2, d3, d4⟩ := (h2.below hbel).item k u hu
      have HT : Hid (l[k]? = some t ∧ m[k]? = some u) := ⟨ht, hu⟩
      clear h1 h2 ht hu
      have x0 : ∀ X : Since wr.heap.size wr, X.val.cell? ⟨bk, o + k * 5, none⟩ = some (.string t.path) := fun X => (X.property.cell (p := ⟨bk, o + k * 5, none⟩) hbk).trans c0
      have x1 : ∀ X : Since wr.heap.size wr, X.val.cell? ⟨bk, o + k * 5 + 1, none⟩ = some (.int .i64 t.kind) := fun X => (X.property.cell (p := ⟨bk, o + k * 5 + 1, none⟩) hbk).trans c1
      have x2 : ∀ X : Since wr.heap.size wr, X.val.cell? ⟨bk, o + k * 5 + 2, none⟩ = some (.int .i64 t.mode) := fun X => (X.property.cell (p := ⟨bk, o + k * 5 + 2, none⟩) hbk).trans c2
      have x3 : ∀ X : Since wr.heap.size wr, X.val.cell? ⟨bk, o + k * 5 + 3, none⟩ = some (.int .i64 t.time) := fun X => (X.property.cell (p := ⟨bk, o + k * 5 + 3, none⟩) hbk).trans c3
      have x4 : ∀ X : Since wr.heap.size wr, X.val.cell? ⟨bk, o + k * 5 + 4, none⟩ = some (.string t.bytes) := fun X => (X.property.cell (p := ⟨bk, o + k * 5 + 4, none⟩) hbk).trans c4
      have y0 : ∀ X : Since wr.heap.size wr, X.val.cell? ⟨bk', o' + k * 5, none⟩ = some (.string u.path) := fun X => (X.property.cell (p := ⟨bk', o' + k * 5, none⟩) hbk').trans d0
      have y1 : ∀ X : Since wr.heap.size wr, X.val.cell? ⟨bk', o' + k * 5 + 1, none⟩ = some (.int .i64 u.kind) := fun X => (X.property.cell (p := ⟨bk', o' + k * 5 + 1, none⟩) hbk').trans d1
      have y2 : ∀ X : Since wr.heap.size wr, X.val.cell? ⟨bk', o' + k * 5 + 2, none⟩ = some (.int .i64 u.mode) := fun X => (X.property.cell (p := ⟨bk', o' + k * 5 + 2, none⟩) hbk').trans d2
      have y3 : ∀ X : Since wr.heap.size wr, X.val.cell? ⟨bk', o' + k * 5 + 3, none⟩ = some (.int .i64 u.time) := fun X => (X.property.cell (p := ⟨bk', o' + k * 5 + 3, none⟩) hbk').trans d3
      have y4 : ∀ X : Since wr.heap.size wr, X.val.cell? ⟨bk', o' + k * 5 + 4, none⟩ = some (.string u.bytes) := fun X => (X.property.cell (p := ⟨bk', o' + k * 5 + 4, none⟩) hbk').trans d4
      clear c0 c1 c2 c3 c4 d0 d1 d2 d3 d4
      have heq := fun W => it_cmp W t u
      have HS : Hid (imSame t u = true ↔ t = u) := imSame_iff
      have hne : Nonempty (Since wr.heap.size wr) := ⟨⟨wr, Below.refl _ _⟩⟩
      generalize imSame t u = S at *
      cases S
      · go_wp2_with fail
        refine wp_region_since (B := wr.heap.size) (W0 := wr) (by kernel_rfl) (by kernel_rfl) (Below.refl _ _) ?_
        repeat (go_big_quiet_step (fail))
        refine wpQuiet_nil ?_
        rintro w7 ⟨U, rfl⟩
        have hU := U.property
        have HB3 : Hid (Below w.heap.size w U.val) := hbel.trans (hU.mono hbel.size)
        generalize U.val = w7 at *
        clear hU hbel x0 x1 x2 x3 x4 y0 y1 y2 y3 y4 heq hne
        go_wp2_with fail
        go_ret
        refine ⟨false, rfl, ⟨fun q => absurd q (by decide), ?_⟩, HB3.out⟩
        rintro rfl
        have := HT.out.1.symm.trans HT.out.2
        have := HS.out.2 (Option.some.inj this)
        cases this
      · go_wp2_with fail
        refine wp_region_since (B := wr.heap.size) (W0 := wr) (by kernel_rfl) (by kernel_rfl) (Below.refl _ _) ?_
        repeat (go_big_quiet_step (fail))
        refine wpQuiet_nil ?_
        rintro w7 ⟨U, rfl⟩
        have hU := U.property
        have HB3 : Hid (Below w.heap.size w U.val) := hbel.trans (hU.mono hbel.size)
        generalize U.val = w7 at *
        clear hU hbel x0 x1 x2 x3 x4 y0 y1 y2 y3 y4 heq hne
        go_wp2_with fail
        go_roundw
        case rel =>
          refine ⟨k + 1, by omega, by go_num, ?_, HB3.out⟩
          rw [List.take_add_one, List.take_add_one, HP.out, HT.out.1, HT.out.2, HS.out.1 (by first | exact trivial | rfl)]
        case measure => simp only [intOf]; omega
    · go_wp2_with fail
      go_ret
      refine ⟨true, rfl, ⟨fun _ => ?_, fun _ => rfl⟩, hbel⟩
      have h := HP.out
      have := HN1.out
      have := HN2.out
      rwa [List.take_of_length_le (by omega), List.take_of_length_le (by omega)] at h

end Go.Proofs.YtimdioacmojkeaaDoor

namespace Go.Proofs.YtimdioacmojkeaaDoor
open Go.RowKit
set_option maxRecDepth 4000

set_option maxRecDepth 8000 in
set_option maxHeartbeats 4000000 in
theorem walkReaps_walk (v0 : Value) (l0 : List Blb) (x1 : List UInt8) (z0 : l0.length ≤ 140737488351232) (f0 : BOk l0) (wx1 : x1.length = 8) (w : World) (t0 : Bx w v0 l0) (hT : Tabs w) :
    Calls Tryd.prog 3 #[v0, idV x1] w fun e w' => e = .returned (.bool true) ∧ Below w.heap.size w w' := by
  obtain ⟨b0, b1, b2, b3, b4, b5, b6, b7, rfl⟩ := eight x1 wx1
  have eV : idV [b0, b1, b2, b3, b4, b5, b6, b7] = .agg #[.int .u8 (b0.toNat : Int), .int .u8 (b1.toNat : Int), .int .u8 (b2.toNat : Int), .int .u8 (b3.toNat : Int), .int .u8 (b4.toNat : Int), .int .u8 (b5.toNat : Int), .int .u8 (b6.toNat : Int), .int .u8 (b7.toNat : Int)] := rfl
  obtain ⟨W1, hW1⟩ : ∃ W1, W1 = w.alloc (.cells #[.int .u8 (b0.toNat : Int), .int .u8 (b1.toNat : Int), .int .u8 (b2.toNat : Int), .int .u8 (b3.toNat : Int), .int .u8 (b4.toNat : Int), .int .u8 (b5.toNat : Int), .int .u8 (b6.toNat : Int), .int .u8 (b7.toNat : Int)] 24) := ⟨_, rfl⟩
  have HB1 : Hid (Below w.heap.size w W1) := by rw [hW1]; exact (Below.refl _ w).alloc (Nat.le_refl _) _
  have HI1 : Hid (I8 W1 w.heap.size [b0, b1, b2, b3, b4, b5, b6, b7]) := by rw [hW1]; exact I8.laid (heap_alloc_new w _)
  have h1 := reap_any v0 l0 [b0, b1, b2, b3, b4, b5, b6, b7] W1 (t0.below HB1.out) f0 z0 rfl (hT.below HB1.out)
  have h2 : ∀ W, Below w.heap.size w W → Calls Tryd.prog 6 #[v0, idV [b0, b1, b2, b3, b4, b5, b6, b7]] W (RpOut l0 [b0, b1, b2, b3, b4, b5, b6, b7] W) := fun W hW => rreap_any v0 l0 _ W (t0.below hW) f0 rfl
  unfold RpOut at h1 h2
  obtain ⟨R, hR⟩ : ∃ R, R = Wk.reapP (pl l0) [b0, b1, b2, b3, b4, b5, b6, b7] := ⟨_, rfl⟩
  rw [← hR] at h1 h2
  rw [eV] at h1 h2 ⊢
  obtain ⟨va, vc, rfl, _, _⟩ := t0.slice
  generalize l0.length = N0 at *
  obtain ⟨y0, y1, y2, y3, y4, y5, y6, y7⟩ := HI1.out.cells
  clear hR t0 hT f0 z0 wx1 eV
  go_enter Tryd.func3, Tryd.ntmps3
  go_upto_region 1 with fail
  rw [← hW1]
  obtain ⟨p1, hp1⟩ : ∃ p1, p1 = w.heap.size := ⟨_, rfl⟩
  have HP1 : Hid (p1 = w.heap.size) := hp1
  rw [← hp1] at HI1 y0 y1 y2 y3 y4 y5 y6 y7 ⊢
  clear hW1 hp1
  go_wp2_with fail
  refine h1.mono ?_
  rintro e w2 ⟨v2, rfl, k2, n2, m2⟩
  have HB2 : Hid (Below w.heap.size w w2) := HB1.out.trans (k2.mono HB1.out.size)
  have HM2 : Hid ((R.2 ≠ 0 → v2 = .slice none 0 0) ∧ (R.2 = 0 → ∃ items, its items = R.1 ∧ w2.ownsRow W1.heap.size 31 5 v2 items.length (rowR imC items) ∧ items.length ≤ 100)) := ⟨n2, m2⟩
  have h3 := h2 w2 HB2.out
  obtain ⟨z0, z1, z2, z3, z4, z5, z6, z7⟩ := (HI1.out.below k2 HI1.out.lt).cells
  clear h1 h2 k2 n2 m2 y0 y1 y2 y3 y4 y5 y6 y7
  go_wp2_with fail
  refine h3.mono ?_
  rintro e w3 ⟨v3, rfl, k3, n3, m3⟩
  have HB3 : Hid (Below w.heap.size w w3) := HB2.out.trans (k3.mono HB2.out.size)
  have HK3 : Hid (Below w2.heap.size w2 w3) := k3
  clear h3 k3 z0 z1 z2 z3 z4 z5 z6 z7
  by_cases hE : R.2 = 0
  · obtain ⟨i2, g1, g2, g3⟩ := HM2.out.2 hE
    obtain ⟨i3, g4, g5, g6⟩ := m3 hE
    obtain rfl : i2 = i3 := its_inj (g1.trans g4.symm)
    have heq := equal_items v2 v3 i2 i2 w3 (Rx.of_own imC_length (own_below g2 HK3.out)) (Rx.of_own imC_length g5) (by omega)
    rw [hE]
    clear g1 g2 g3 g4 g5 g6 m3 n3 hE
    go_wp2_with fail
    refine heq.mono ?_
    rintro e w4 ⟨b, rfl, hb, k4⟩
    obtain rfl : b = true := by first | exact hb.2 rfl | exact hb.2 trivial | exact hb
    have HB4 : Hid (Below w.heap.size w w4) := HB3.out.trans (k4.mono HB3.out.size)
    clear heq hb k4
    go_wp2_with fail
    go_ret
    exact ⟨by simp, HB4.out⟩
  · obtain rfl := HM2.out.1 hE
    have hne : (R.2 != 0) = true := by rw [bne_iff_ne]; exact hE
    clear m3 n3 hE
    generalize R.2 = E at *
    go_wp2_with fail
    go_ret
    exact ⟨by simp, HB3.out⟩
end Go.Proofs.YtimdioacmojkeaaDoor
