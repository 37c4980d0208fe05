/-
  Equations as they lie in memory; what solve of package shield does.
-/
import Derived.Test.YtoeohnknpbdgdaaDoorShMeth
import Derived.Deep.Cut
namespace Go.Proofs.YtoeohnknpbdgdaaDoor
open Go.RowKit
set_option maxRecDepth 4000

/-- item i of the equations: weights and bytes by turns -/
def itm (S : Nat → Fd.Eqn) (i : Nat) : List Nat := if i % 2 = 0 then (S (i / 2)).1 else (S (i / 2)).2
theorem itm_w (S : Nat → Fd.Eqn) (r : Nat) : itm S (r * 2) = (S r).1 := by
  unfold itm; rw [if_pos (by omega), show r * 2 / 2 = r from by omega]
theorem itm_b (S : Nat → Fd.Eqn) (r : Nat) : itm S (r * 2 + 1) = (S r).2 := by
  unfold itm; rw [if_neg (by omega), show (r * 2 + 1) / 2 = r from by omega]
/-- no block of the items -/
def Fre (cs : Nat → Value) (L k : Nat) : Prop := ∀ i, i < L * 2 → (cs i).ownBlock ≠ some k
structure Eqs (W : World) (base : Nat) (v : Value) (L : Nat) (cs : Nat → Value) (S : Nat → Fd.Eqn) : Prop where
  row : W.ownsRow base 52 2 v L ((List.range (L * 2)).map cs)
  obs : ∀ i, i < L * 2 → Ob W base (cs i) (itm S i)
  apart : ∀ i j, i < L * 2 → j < L * 2 → i ≠ j → ∀ g, (cs i).ownBlock = some g → (cs j).ownBlock ≠ some g
theorem Eqs.keep {W W' : World} {base L : Nat} {v : Value} {cs : Nat → Value} {S : Nat → Fd.Eqn} (h : Eqs W base v L cs S) (hb : Below W.heap.size W W') : Eqs W' base v L cs S :=
  ⟨own_below h.row hb, fun i hi => (h.obs i hi).below hb, h.apart⟩
theorem Eqs.at_ {W : World} {base L g c : Nat} {cs : Nat → Value} {S : Nat → Fd.Eqn} (h : Eqs W base (.slice (some ⟨g, 0, none⟩) L c) L cs S) (r : Nat) (hr : r < L) :
    W.cell? ⟨g, r * 2, none⟩ = some (cs (r * 2)) ∧ W.cell? ⟨g, r * 2 + 1, none⟩ = some (cs (r * 2 + 1)) := by
  have key : ∀ j, j < L * 2 → W.cell? ⟨g, j, none⟩ = some (cs j) := fun j hj => by
    have := World.ownsRow.cells h.row (g := g) rfl j (cs j) (by rw [List.getElem?_map, List.getElem?_range hj]; rfl)
    rwa [show (⟨g, 0, none⟩ : Addr).add j = ⟨g, j, none⟩ from by unfold Addr.add; split <;> simp_all] at this
  exact ⟨key _ (by omega), key _ (by omega)⟩
/-- one equation changed -/
theorem Eqs.upd {W W' : World} {base L r : Nat} {v : Value} {cs : Nat → Value} {S : Nat → Fd.Eqn} {e : Fd.Eqn} (h : Eqs W base v L cs S) (hr : r < L) (hk : Kept (fun k => (cs (r * 2)).ownBlock ≠ some k ∧ (cs (r * 2 + 1)).ownBlock ≠ some k) W W')
    (h1 : Ob W' base (cs (r * 2)) e.1) (h2 : Ob W' base (cs (r * 2 + 1)) e.2) : Eqs W' base v L cs (fun q => if q = r then e else S q) := by
  refine ⟨own_kept h.row hk fun g hg => ⟨fun e => ?_, fun e => ?_⟩, fun i hi => ?_, h.apart⟩
  · exact (h.obs (r * 2) (by omega)).unlike h.row (by decide) g e hg
  · exact (h.obs (r * 2 + 1) (by omega)).unlike h.row (by decide) g e hg
  · by_cases e1 : i = r * 2
    · subst e1
      rw [itm_w, if_pos rfl]; exact h1
    · by_cases e2 : i = r * 2 + 1
      · subst e2
        rw [itm_b, if_pos rfl]; exact h2
      · have : itm (fun q => if q = r then e else S q) i = itm S i := by
          unfold itm
          dsimp only
          rw [if_neg (show ¬ i / 2 = r by omega)]
        rw [this]
        exact (h.obs i hi).kept hk fun g hg => ⟨h.apart i (r * 2) hi (by omega) e1 g hg, h.apart i (r * 2 + 1) hi (by omega) e2 g hg⟩
theorem Fre.of {cs : Nat → Value} {L r k : Nat} (h : Fre cs L k) (hr : r < L) : (cs (r * 2)).ownBlock ≠ some k ∧ (cs (r * 2 + 1)).ownBlock ≠ some k := ⟨h _ (by omega), h _ (by omega)⟩
theorem Eqs.box {W : World} {base L B : Nat} {v : Value} {cs : Nat → Value} {S : Nat → Fd.Eqn} {c : Array Value} (h : Eqs W base v L cs S) (hb : W.heap[B]? = some (.cells c 52 (0, 0))) : Fre cs L B := fun i hi => ob_not_box (h.obs i hi) hb
theorem Eqs.old {W : World} {base L k : Nat} {v : Value} {cs : Nat → Value} {S : Nat → Fd.Eqn} (h : Eqs W base v L cs S) (hk : k < base) : Fre cs L k := fun i hi e => by
  obtain ⟨_, _, _, h2, _⟩ := (h.obs i hi).block e
  omega
/-- field.Inv, whatever comes in -/
theorem inv_all (a : Nat) (ha : a < 256) : ∃ er : Int, ∀ W, Calls Tryd.prog 29 #[.int .u8 a] W fun e w' => e = .returned (.tuple #[.int .u8 (Fd.inv a : Nat), .int .i64 er]) ∧ w' = W := by
  by_cases h : a = 0
  · subst h
    refine ⟨1, fun W => ?_⟩
    rw [Fd.inv_zero]
    exact inv_bad W
  · exact ⟨0, fun W => inv_any a W ha h⟩

set_option maxHeartbeats 4000000 in
theorem solve_any (base : Nat) (v : Value) (L m : Nat) (cs : Nat → Value) (S : Nat → Fd.Eqn) (w : World) (h : Eqs w base v L cs S) (hS : Fd.Shape S L m) (hL : L ≤ 16) (hm : m ≤ 4096) :
    Calls Tryd.prog 20 #[v] w fun e w' => e = .returned (.tuple #[]) ∧ Eqs w' base v L cs (Fd.solved S L L) ∧ Kept (Fre cs L) w w' := by
  obtain ⟨va, vc, rfl⟩ := own_len h.row
  have HS : Hid (∀ k, k ≤ L → Fd.Shape (Fd.solved S L k) L m) := fun k hk => hS.solved k hk
  have H0 : Hid (Eqs w base (.slice va L vc) L cs (Fd.solved S L 0)) := h
  clear h hS
  go_enter Tryd.func20, Tryd.ntmps20
  go_wp2_with fail
  go_loopw [10] (fun i wr => ∃ k : Nat, k ≤ L ∧ i = .int .i64 k ∧ Hid (Eqs wr base (.slice va L vc) L cs (Fd.solved S L k)) ∧ Hid (Kept (Fre cs L) w wr)) (fun i _ => L - (intOf i).toNat)
  case atStart => exact ⟨0, by omega, rfl, H0, Kept.refl _ _⟩
  case round =>
    clear H0
    obtain ⟨k, hk, rfl, HE, HK⟩ := hrel
    by_cases hlt : k < L
    · obtain ⟨g, vc', e1, hg1, hg2⟩ := own_some HE.out.row (by omega)
      rw [Value.slice.injEq] at e1
      obtain ⟨rfl, en1, rfl⟩ := e1
      clear en1 hg1
      have hsh := HS.out k hk
      have HN : Hid (Fd.solved S L (k + 1) = Fd.stepTo (Fd.solved S L k) k L) := rfl
      obtain ⟨Z, hZ⟩ : ∃ Z, Fd.solved S L k = Z := ⟨_, rfl⟩
      rw [hZ] at HE HN hsh
      clear hZ
      have HSh : Hid (Fd.Shape Z L m) := hsh
      have hit1 : (itm Z (k * 2)).length = L := by rw [itm_w]; exact hsh.w k hlt
      have hit2 : (itm Z (k * 2 + 1)).length = m := by rw [itm_b]; exact hsh.b k hlt
      obtain ⟨gw, wc, ew, _, hgw⟩ := (HE.out.obs (k * 2) (by omega)).some_ (by omega)
      obtain ⟨ba, bc, eb⟩ := (HE.out.obs (k * 2 + 1) (by omega)).len
      rw [hit1] at ew
      rw [hit2] at eb
      obtain ⟨c0, c1⟩ := HE.out.at_ k hlt
      rw [ew] at c0
      rw [eb] at c1
      obtain ⟨W0, hW0⟩ : ∃ W0, W0 = wr.alloc (.cells #[.slice (some ⟨gw, 0, none⟩) L wc, .slice ba m bc] 52) := ⟨_, rfl⟩
      have hB0 : Below wr.heap.size wr W0 := by rw [hW0]; exact (Below.refl _ _).alloc (Nat.le_refl _) _
      have hbox : W0.heap[wr.heap.size]? = some (.cells #[.slice (some ⟨gw, 0, none⟩) L wc, .slice ba m bc] 52 (0, 0)) := by rw [hW0]; exact heap_alloc_new wr _
      have HE0 := HE.out.keep hB0
      have x0 : W0.cell? ⟨wr.heap.size, 0, none⟩ = some (.slice (some ⟨gw, 0, none⟩) L wc) := by rw [cell_of_row _ _ 0 _ _ _ hbox]; rfl
      have x1 : W0.cell? ⟨wr.heap.size, 1, none⟩ = some (.slice ba m bc) := by rw [cell_of_row _ _ 1 _ _ _ hbox]; rfl
      have ow := HE0.obs (k * 2) (by omega)
      have ob := HE0.obs (k * 2 + 1) (by omega)
      rw [ew, itm_w] at ow
      rw [eb, itm_b] at ob
      have x2 := ow.at_ k (by rw [hsh.w k hlt]; exact hlt)
      have hlw := Fd.get_lt (hsh.ws k hlt) k
      obtain ⟨er, hinv⟩ := inv_all _ hlw
      have hap := HE.out.apart (k * 2) (k * 2 + 1) (by omega) (by omega) (by omega)
      rw [ew, eb] at hap
      have hmul := mulE_any base _ _ (Z k).1 (Z k).2 _ W0 ow ob hap (by rw [hsh.w k hlt]; omega) (by rw [hsh.b k hlt]; exact hm) (hsh.ws k hlt) (hsh.bs k hlt) (Fd.inv_lt hlw)
      have hmul' : Calls Tryd.prog 30 #[.agg #[.slice (some ⟨gw, 0, none⟩) L wc, .slice ba m bc], .int .u8 (Fd.inv ((Z k).1.getD k 0) : Nat)] W0 fun e w' => e = .returned (.tuple #[]) ∧ Hid (Eqs w' base (.slice (some ⟨g, 0, none⟩) L vc) L cs (Fd.stepTo Z k 0)) ∧ Hid (Kept (Fre cs L) w w') ∧ Hid (w'.heap[wr.heap.size]? = some (.cells #[.slice (some ⟨gw, 0, none⟩) L wc, .slice ba m bc] 52 (0, 0))) := hmul.mono fun e w' ⟨h1, h2, h3, h4⟩ => by
        rw [← ew, ← eb] at h4
        refine ⟨h1, ?_, ?_, ?_⟩
        · have := HE0.upd (e := Fd.one Z k) hlt h4 (by rw [ew]; exact h2) (by rw [eb]; exact h3)
          have e' : (fun q => if q = k then Fd.one Z k else Z q) = Fd.stepTo Z k 0 := by
            funext q
            unfold Fd.stepTo
            simp
          rw [e'] at this
          exact this
        · exact (HK.out.trans (Kept.of_below hB0)).trans (h4.mono fun q hq => hq.of hlt)
        · exact h4.obj ((HE0.box hbox).of hlt) hbox
      generalize (Z k).1.getD k 0 = y at *
      generalize Fd.inv y = iv at *
      have HEW : Hid (cs (k * 2) = .slice (some ⟨gw, 0, none⟩) L wc ∧ cs (k * 2 + 1) = .slice ba m bc) := ⟨ew, eb⟩
      clear hmul HE0 HE HK ow ob hap ew eb hit1 hit2 hsh hB0 hbox hlw
      go_upto_region 3 with fail
      rw [← hW0]
      clear hW0 c0 c1
      go_wp2_with fail
      refine (hinv _).mono ?_
      rintro e u ⟨rfl, hu⟩
      obtain rfl := hu.symm
      clear hu hinv
      go_wp2_with fail
      refine hmul'.mono ?_
      rintro e W1 ⟨rfl, HE, HK, HX⟩
      clear hmul' x0 x1 x2
      go_wp2_with fail
      generalize wr.heap.size = E at *
      go_loopw [29] (fun i wq => ∃ o : Nat, o ≤ L ∧ i = .int .i64 o ∧ Hid (Eqs wq base (.slice (some ⟨g, 0, none⟩) L vc) L cs (Fd.stepTo Z k o)) ∧ Hid (Kept (Fre cs L) w wq) ∧ Hid (wq.heap[E]? = some (.cells #[.slice (some ⟨gw, 0, none⟩) L wc, .slice ba m bc] 52 (0, 0)))) (fun i _ => L - (intOf i).toNat)
      case atStart => exact ⟨0, by omega, rfl, HE, HK, HX⟩
      case round =>
        clear HE HK HX
        obtain ⟨o, ho, rfl, HE, HK, HX⟩ := hrel
        by_cases hlo : o < L
        · obtain ⟨d0, d1⟩ := HE.out.at_ o hlo
          have hsh : Fd.Shape (Fd.stepTo Z k o) L m := HSh.out.step hlt
          have hit1 : (itm (Fd.stepTo Z k o) (o * 2)).length = L := by rw [itm_w]; exact hsh.w o hlo
          have hit2 : (itm (Fd.stepTo Z k o) (o * 2 + 1)).length = m := by rw [itm_b]; exact hsh.b o hlo
          obtain ⟨gf, fc, ef, _, hgf⟩ := (HE.out.obs (o * 2) (by omega)).some_ (by omega)
          obtain ⟨ya, yc, ey⟩ := (HE.out.obs (o * 2 + 1) (by omega)).len
          rw [hit1] at ef
          rw [hit2] at ey
          rw [ef] at d0
          rw [ey] at d1
          obtain ⟨V0, hV0⟩ : ∃ V0, V0 = wr.alloc (.cells #[.slice (some ⟨gf, 0, none⟩) L fc, .slice ya m yc] 52) := ⟨_, rfl⟩
          have hB0 : Below wr.heap.size wr V0 := by rw [hV0]; exact (Below.refl _ _).alloc (Nat.le_refl _) _
          have HE0 := HE.out.keep hB0
          have hEl : E < wr.heap.size := (Array.getElem?_eq_some_iff.1 HX.out).1
          have hX0 := (hB0.block E hEl).trans HX.out
          have HK0 : Kept (Fre cs L) w V0 := HK.out.trans (Kept.of_below hB0)
          by_cases hok : o = k
          · have hq : ((o : Int) != (k : Int)) = false := by rw [bne_eq_false_iff_eq]; omega
            have HR : Hid (Eqs V0 base (.slice (some ⟨g, 0, none⟩) L vc) L cs (Fd.stepTo Z k (o + 1)) ∧ Kept (Fre cs L) w V0 ∧ V0.heap[E]? = some (.cells #[.slice (some ⟨gw, 0, none⟩) L wc, .slice ba m bc] 52 (0, 0))) := by
              refine ⟨?_, HK0, hX0⟩
              rw [show Fd.stepTo Z k (o + 1) = Fd.stepTo Z k o from by subst hok; exact Fd.stepTo_same Z o]; exact HE0
            clear HE HK HX HE0 HK0 hX0 hB0 hok hsh hit1 hit2 ef ey
            go_upto_region 8 with fail
            rw [← hV0]
            clear hV0
            go_wp2_with fail
            go_roundw
            case rel => exact ⟨o + 1, by omega, by go_num, HR.out.1, HR.out.2.1, HR.out.2.2⟩
            case measure => simp only [intOf]; omega
          · have hq : ((o : Int) != (k : Int)) = true := by rw [bne_iff_ne]; omega
            have hbox : V0.heap[wr.heap.size]? = some (.cells #[.slice (some ⟨gf, 0, none⟩) L fc, .slice ya m yc] 52 (0, 0)) := by rw [hV0]; exact heap_alloc_new wr _
            have x0 : V0.cell? ⟨wr.heap.size, 0, none⟩ = some (.slice (some ⟨gf, 0, none⟩) L fc) := by rw [cell_of_row _ _ 0 _ _ _ hbox]; rfl
            have x1 : V0.cell? ⟨wr.heap.size, 1, none⟩ = some (.slice ya m yc) := by rw [cell_of_row _ _ 1 _ _ _ hbox]; rfl
            have z0 : V0.cell? ⟨E, 0, none⟩ = some (.slice (some ⟨gw, 0, none⟩) L wc) := by rw [cell_of_row _ _ 0 _ _ _ hX0]; rfl
            have z1 : V0.cell? ⟨E, 1, none⟩ = some (.slice ba m bc) := by rw [cell_of_row _ _ 1 _ _ _ hX0]; rfl
            have ow := HE0.obs (o * 2) (by omega)
            have ob := HE0.obs (o * 2 + 1) (by omega)
            have pw := HE0.obs (k * 2) (by omega)
            have pb := HE0.obs (k * 2 + 1) (by omega)
            rw [itm_w] at ow pw
            rw [itm_b] at ob pb
            have a1 := HE0.apart (o * 2)
            have a2 := HE0.apart (o * 2 + 1) (k * 2 + 1) (by omega) (by omega) (by omega)
            have x2 : V0.cell? ⟨gf, k, none⟩ = some (.int .u8 ((Fd.stepTo Z k o o).1.getD k 0 : Nat)) := by
              have h' := ow
              rw [ef] at h'
              exact h'.at_ k (by rw [hsh.w o hlo]; exact hlt)
            have hlw := Fd.get_lt (hsh.ws o hlo) k
            have hadd' : Calls Tryd.prog 31 #[.agg #[.slice (some ⟨gf, 0, none⟩) L fc, .slice ya m yc], .agg #[.slice (some ⟨gw, 0, none⟩) L wc, .slice ba m bc], .int .u8 ((Fd.stepTo Z k o o).1.getD k 0 : Nat)] V0.drew fun e w' => e = .returned (.tuple #[]) ∧ Hid (Eqs w' base (.slice (some ⟨g, 0, none⟩) L vc) L cs (Fd.stepTo Z k (o + 1)) ∧ Kept (Fre cs L) w w' ∧ w'.heap[E]? = some (.cells #[.slice (some ⟨gw, 0, none⟩) L wc, .slice ba m bc] 52 (0, 0))) := by
              have hD : Kept (fun _ => True) V0 V0.drew := (Kept.refl _ _).drew
              have hB1 : Below V0.heap.size V0 V0.drew := (Below.refl _ _).drew
              have := addE_any base _ _ _ _ _ _ _ _ ((Fd.stepTo Z k o o).1.getD k 0) V0.drew (ow.below hB1) (ob.below hB1) (pw.below hB1) (pb.below hB1) (fun q hq => ⟨a1 (o * 2 + 1) (by omega) (by omega) (by omega) q hq, a1 (k * 2) (by omega) (by omega) (by omega) q hq, a1 (k * 2 + 1) (by omega) (by omega) (by omega) q hq⟩) a2
                (by rw [hsh.w o hlo]; omega) (by rw [hsh.b o hlo]; exact hm) (by rw [hsh.w o hlo, hsh.w k hlt]) (by rw [hsh.b o hlo, hsh.b k hlt]) (hsh.ws o hlo) (hsh.bs o hlo) (hsh.ws k hlt) (hsh.bs k hlt) hlw
              rw [ef, ey, HEW.out.1, HEW.out.2] at this
              refine this.mono fun e w' ⟨h1, h2, h3, h4⟩ => ⟨h1, ?_⟩
              rw [← ef, ← ey] at h4
              refine ⟨?_, (HK0.trans (Kept.of_below hB1)).trans (h4.mono fun q hq => hq.of hlo), h4.obj (((HE0.keep hB1).box ((hB1.block E (by have := hB0.size; omega)).trans hX0)).of hlo) ((hB1.block E (by have := hB0.size; omega)).trans hX0)⟩
              have hu := (HE0.keep hB1).upd (e := Fd.addE (Fd.stepTo Z k o o) (Fd.stepTo Z k o k) ((Fd.stepTo Z k o o).1.getD k 0)) hlo h4 (by rw [ef]; exact h2) (by rw [ey]; exact h3)
              rw [Fd.stepTo_more hok]
              have e' : (fun q => if q = o then Fd.addE (Fd.stepTo Z k o o) (Fd.stepTo Z k o k) ((Fd.stepTo Z k o o).1.getD k 0) else Fd.stepTo Z k o q) = fun r => if r = o then Fd.addE (Fd.stepTo Z k o r) (Fd.one Z k) ((Fd.stepTo Z k o r).1.getD k 0) else Fd.stepTo Z k o r := by
                funext q
                by_cases e : q = o
                · subst e; rw [if_pos rfl, if_pos rfl, Fd.stepTo_own]
                · rw [if_neg e, if_neg e]
              rw [e'] at hu
              exact hu
            generalize (Fd.stepTo Z k o o).1.getD k 0 = y2 at *
            clear ow ob pw pb a1 a2 HE HK HX HE0 HK0 hX0 hB0 hsh hit1 hit2 ef ey hbox hok
            go_upto_region 9 with fail
            rw [← hV0]
            clear hV0 d0 d1
            go_region_with (refine hadd'.mono ?_; rintro e u ⟨rfl, HR⟩)
            all_goals
              go_wp2_with fail
              go_roundw
              case rel => exact ⟨o + 1, by omega, by go_num, HR.out.1, HR.out.2.1, HR.out.2.2⟩
              case measure => simp only [intOf]; omega
        · obtain rfl : o = L := by omega
          rw [← HN.out] at HE
          clear HX HEW HSh HN
          go_wp2_with fail
          go_roundw
          case rel => exact ⟨k + 1, by omega, by go_num, HE, HK⟩
          case measure => simp only [intOf]; omega
    · obtain rfl : k = L := by omega
      go_wp2_with fail
      go_end0
      exact ⟨rfl, HE.out, HK.out⟩
end Go.Proofs.YtoeohnknpbdgdaaDoor
