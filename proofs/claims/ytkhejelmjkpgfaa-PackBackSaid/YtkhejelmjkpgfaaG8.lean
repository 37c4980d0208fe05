/-
  What Lengths of package lumref answers to a right list.
  What Kraft and Codes of package lumref answer.
  What Codes of package lumref answers.
  What number, turned of the document's answer (package lumref) answer.
  The library's contracts at this program: strings_HasPrefix (laid by the guide's own tools, written out in plain words).
  What Put and Get of the document's answer (package lumref) answer.
-/
import Derived.Test.YtkhejelmjkpgfaaG7
import Derived.Deep.AppendLies
import Derived.Test.YtkhejelmjkpgfaaG3
import Derived.Deep.QuietTactic
import Derived.BigQuiet
import Derived.WalkSmall
import Derived.Shelf.Strings.Prefix
import Derived.Test.YtkhejelmjkpgfaaProg
import Derived.Test.YtkhejelmjkpgfaaG0

namespace Go.Proofs.Ytkhejelmjkpgfaa
open Go.RowKit
set_option maxRecDepth 4000

theorem Hf.up_set' (l : List Nat) (i x : Nat) : Hf.up (l.set i x) = (Hf.up l).set i (x : Int) := by
  unfold Hf.up
  rw [List.map_set]
theorem Hf.up_zero' (n : Nat) : Hf.up (List.replicate n 0) = List.replicate n 0 := by simp [Hf.up]
theorem Hf.nlt_of' {c a : Hf.G} (h : Hf.ltG c a = false) : Hf.nlt (Hf.ab c) (Hf.ab a) := by
  rw [Hf.ltG_not] at h
  unfold Hf.nlt Hf.ab
  dsimp only
  omega
/-- one more bunch, whose signs lie in a row already -/
theorem Bun.more1 {wr w1 : World} {v v1 : Value} {bl : List Hf.G} {g : Hf.G} {o1 : Obj} {base : Nat} (h : Bun wr base v bl) (hown : w1.ownsRow base 153 2 v1 (bl.length + 1) (rowB bl ++ bC g)) (hs : wr.ownsRow base 3 1 g.sv g.sg.length ((Hf.up g.sg).map Iv)) (hl : 1 ≤ g.sg.length ∧ g.sg.getD 0 0 = g.low)
    (hg : (wr.alloc o1).grownBy w1 v.ownBlock) : Bun w1 base v1 (bl ++ [g]) := by
  have key : ∀ y : Hf.G, wr.ownsRow base 3 1 y.sv y.sg.length ((Hf.up y.sg).map Iv) → w1.ownsRow base 3 1 y.sv y.sg.length ((Hf.up y.sg).map Iv) := fun y hr => by
    refine own_kept2 (hr.alloc o1) (p := fun k => v.ownBlock ≠ some k) ⟨hg.os, hg.tape, hg.output, hg.size, fun k hk hp => hg.block k hk fun e => hp e.symm⟩ fun b hb e => ?_
    rcases hr.2 with ⟨e1, _⟩ | ⟨b1, c1, u1, e1, _, q1, _⟩
    · rw [e1] at hb; simp [Value.ownBlock] at hb
    · rcases h.row.2 with ⟨e2, _⟩ | ⟨b2, c2, u2, e2, _, q2, _⟩
      · rw [e2] at e; simp [Value.ownBlock] at e
      · rw [e1] at hb; rw [e2] at e
        simp [Value.ownBlock] at hb e
        subst hb
        subst e
        rw [q1] at q2
        simp at q2
  refine ⟨by rw [rowB_more, List.length_append]; exact hown, fun y hy => ?_, fun y hy => ?_⟩
  · rcases List.mem_append.1 hy with hy | hy
    · exact key y (h.signs y hy)
    · rw [List.mem_singleton.1 hy]; exact key g hs
  · rcases List.mem_append.1 hy with hy | hy
    · exact h.low y hy
    · rw [List.mem_singleton.1 hy]; exact hl
set_option maxHeartbeats 8000000 in
theorem rlen_any (v : Value) (F : List Nat) (w : World) (h : Ints w v (Hf.up F)) (h1 : 1 ≤ F.length) (h2 : F.length ≤ 256) (h3 : ∀ n ∈ F, n ≤ 1048576) :
    Calls Try.prog 79 #[v] w fun e w' => ∃ v' out, e = .returned (.tuple #[v', .int .i64 0]) ∧ Hf.HL F out ∧ w'.ownsRow w.heap.size 3 1 v' F.length ((Hf.up out).map Iv) ∧ Below w.heap.size w w' := by
  obtain ⟨i0, hi, hz0, hz1, hz2⟩ := info_parts info_bunch
  obtain ⟨j0, hj, hy0, hy1, hy2⟩ := info_parts info_int
  obtain ⟨a, c, rfl⟩ := h.slice
  rw [Hf.up_length] at h ⊢
  have HST : Hid (Hf.Inv F (Hf.init F F.length) (List.replicate F.length 0)) := Hf.Inv.start h2 h3
  have H3 : Hid (∀ n ∈ F, n ≤ 1048576) := h3
  have hne : ((F.length : Int) == 0) = false := by simp; rintro rfl; simp at h1
  clear h3
  go_enter Try.func79, Try.ntmps79
  go_wp2_with fail
  go_loopw [4, 22] (fun x y wr => ∃ (k : Nat) (bl : List Hf.G), k ≤ F.length ∧ y = .int .i64 k ∧ Hid (Bun wr w.heap.size x bl) ∧ Hid (bl.map Hf.ab = Hf.init F k) ∧ Hid (Below w.heap.size w wr)) (fun _ y _ => F.length - (intOf y).toNat)
  case atStart => exact ⟨0, [], by omega, rfl, ⟨World.ownsRow_nil _ _ _ _, fun g hg => by simp at hg, fun g hg => by simp at hg⟩, rfl, Below.refl _ _⟩
  case round =>
    obtain ⟨k, bl, hk, rfl, hbun, hab, hbel⟩ := hrel
    have hsz := hbel.out.size
    have hbl : bl.length ≤ k := by
      have e1 := congrArg List.length hab.out
      rw [List.length_map] at e1
      have := Hf.init_length F k
      omega
    by_cases hlt : k < F.length
    · obtain ⟨bk, o, rfl, hbk, c0⟩ := (h.below (Nat.le_refl _) hbel.out).getN k hlt
      have hn := Hf.getD_le H3.out k
      have HN : Hid (_) := Hf.init_succ F k
      generalize F.getD k 0 = n at *
      by_cases hn0 : 0 < n
      · have hown := hbun.out.row
        go_wp2_with (at_builtin; refine wpList_append_own _ rfl (.tmp 35) (.tmp 40) 151 rfl w.heap.size 153 i0 (.agg #[.int .i64 0, .slice none 0 0]) 2 32 Try.underlying151 hi hz0 hz1 hz2 rfl (by decide) _ _ _ rfl ((hown.alloc _).alloc _) ⟨wr.heap.size + 1, 0, none⟩ 1 1 (bC ⟨n, k, [k], .slice (some ⟨wr.heap.size, 0, none⟩) 1 1⟩) rfl rfl (two_at (by simp) (by simp)) (by simp [bC, Value.oneCell']) (by unfold maxLen; omega) (by omega) (by simp; omega) ?_; intro v1 w3 hown3 hgrow _)
        have HB3 : Hid (Below w.heap.size w w3) := ((hbel.out.alloc hsz _).alloc (by simp; omega) _).grown hgrow (by simp; omega) fun j hj => (hown.lt j hj).1
        have HBUN : Hid (Bun w3 w.heap.size v1 (bl ++ [⟨n, k, [k], .slice (some ⟨wr.heap.size, 0, none⟩) 1 1⟩])) := by
          refine hbun.out.more hown3 ?_ ⟨by simp, by simp⟩ hgrow
          have hs : (wr.alloc (.cells #[.int .i64 (k : Int)] 3)).ownsRow w.heap.size 3 1 (.slice (some ⟨wr.heap.size, 0, none⟩) 1 1) 1 [.int .i64 (k : Int)] := World.ownsRow_lit wr #[.int .i64 (k : Int)] 1 hsz (by unfold maxLen; omega) rfl
          refine own_kept2 (hs.alloc _) (p := fun q => u4.ownBlock ≠ some q) ⟨hgrow.os, hgrow.tape, hgrow.output, hgrow.size, fun q hq hp => hgrow.block q hq fun e => hp e.symm⟩ fun q hq e => ?_
          have := (hown.lt q e).2
          simp [Value.ownBlock] at hq
          omega
        have HAB : Hid ((bl ++ [(⟨n, k, [k], .slice (some ⟨wr.heap.size, 0, none⟩) 1 1⟩ : Hf.G)]).map Hf.ab = Hf.init F (k + 1)) := by
          show _ = _
          rw [List.map_append, hab.out, HN.out, if_pos hn0]
          rfl
        clear hown3 hgrow hown hbel c0 hbun hab HN
        go_wp2_with fail
        go_roundw
        case rel => exact ⟨k + 1, _, by omega, by go_num, HBUN, HAB, HB3⟩
        case measure => simp only [intOf]; omega
      · have HAB : Hid (bl.map Hf.ab = Hf.init F (k + 1)) := by
          show _ = _
          rw [hab.out, HN.out, if_neg hn0, List.append_nil]
        clear HN
        go_wp2_with fail
        go_roundw
        case rel => exact ⟨k + 1, bl, by omega, by go_num, hbun, HAB, hbel⟩
        case measure => simp only [intOf]; omega
    · obtain rfl : k = F.length := by omega
      obtain ⟨av, cv, rfl⟩ := hbun.out.form
      obtain ⟨N0, hN0⟩ : ∃ N0, bl.length = N0 := ⟨_, rfl⟩
      rw [hN0] at hbun
      rw [hN0]
      have HN : Hid (bl.length = N0) := hN0
      rw [hN0] at hbl
      clear hN0
      by_cases hone : N0 = 1
      · subst hone
        obtain ⟨x, rfl⟩ := List.length_eq_one_iff.1 HN.out
        have HI : Hid (Hf.init F F.length = [Hf.ab x]) := hab.out.symm
        obtain ⟨b, cb, hv⟩ := hbun.out.slice (by simp)
        obtain ⟨rfl, rfl⟩ : av = some ⟨b, 0, none⟩ ∧ cv = cb := by simpa using hv
        obtain ⟨_, a1, hb⟩ := hbun.out.at_ rfl 0 (by simp)
        have hn0 : Hf.nth [x] 0 = x := rfl
        rw [hn0] at a1
        obtain ⟨sb, sc, es, hsb, s0⟩ := hbun.out.sign (List.mem_singleton.2 rfl)
        have hsl := (hbun.out.low x (List.mem_singleton.2 rfl)).1
        have hxl : x.low < F.length := by
          obtain ⟨j, hj', _, e⟩ := Hf.init_mem (show Hf.ab x ∈ Hf.init F F.length by rw [HI.out]; exact List.mem_singleton.2 rfl)
          have e2 : x.low = j := congrArg (·.2.1) e
          omega
        have HHL : Hid (Hf.HL F ((List.replicate F.length 0).set x.low 1)) := by
          refine ⟨by simp, fun e => by rw [HI.out] at e; simp at e, fun y e => ?_, fun e => by rw [HI.out] at e; simp at e⟩
          rw [HI.out] at e
          have : y = Hf.ab x := by simpa using e.symm
          rw [this]
          rfl
        rw [es] at a1
        simp only [Nat.zero_mul, Nat.zero_add] at a1
        have HQ : Hid (∀ w1, w1.ownsRow wr.heap.size 3 1 (.slice (some ⟨wr.heap.size, 0, none⟩) F.length F.length) F.length (madeCells (Value.int .i64 0).cells (F.length * 1)).toList → wr.grownBy w1 none →
            w1.cell? ⟨b, 1, none⟩ = some (.slice (some ⟨sb, 0, none⟩) x.sg.length sc) ∧ w1.cell? ⟨sb, 0, none⟩ = some (.int .i64 (x.low : Int)) ∧ w1.cell? ⟨wr.heap.size, x.low, none⟩ = some (.int .i64 0) ∧ w1.frozen? ⟨wr.heap.size, x.low, none⟩ = false ∧
            (w1.setCell ⟨wr.heap.size, x.low, none⟩ (.int .i64 1)).ownsRow w.heap.size 3 1 (.slice (some ⟨wr.heap.size, 0, none⟩) F.length F.length) F.length ((Hf.up ((List.replicate F.length 0).set x.low 1)).map Iv) ∧ Below w.heap.size w (w1.setCell ⟨wr.heap.size, x.low, none⟩ (.int .i64 1))) := by
          intro w1 hown hgrow
          have hown1 := made_zeros hown
          have hB1 : Below wr.heap.size wr w1 := (Below.refl _ _).grown hgrow (Nat.le_refl _) (fun k hk => by cases hk)
          refine ⟨(hB1.cell (p := ⟨b, 1, none⟩) hb).trans a1, (hB1.cell (p := ⟨sb, 0, none⟩) hsb).trans s0, ?_, hown1.frozenAt _, ?_, ?_⟩
          · rw [own_at hown1 x.low (by simpa using hxl)]; simp
          · rw [Hf.up_set', Hf.up_zero']; exact row_lower (own_store hown1 x.low 1) hsz
          · exact (hbel.out.trans (hB1.mono hsz)).setCell hsz _
        generalize x.sg.length = xn at *
        generalize x.low = xl at *
        have hsl' : (0 : Int) < (xn : Int) := by omega
        clear hbun hab hbel a1 s0 es HST hn0 hv
        go_wp2_with (at_make; refine wpList_make_full _ rfl (.tmp 44) (.tmp 44) 82 rfl wr.heap.size 3 j0 (.int .i64 0) 1 Try.underlying82 hj hy0 hy1 .i64 .i64 _ _ F.length rfl rfl rfl rfl (by rw [hy2]; omega) (by unfold maxLen; omega) (Nat.le_refl _) ?_; intro w1 hown hgrow; obtain ⟨e0, e1, e2, e3, e4, e5⟩ := HQ.out w1 hown hgrow; clear hown hgrow)
        have HO : Hid ((w1.setCell ⟨wr.heap.size, xl, none⟩ (.int .i64 1)).ownsRow w.heap.size 3 1 (.slice (some ⟨wr.heap.size, 0, none⟩) F.length F.length) F.length ((Hf.up ((List.replicate F.length 0).set xl 1)).map Iv)) := e4
        have HB : Hid (Below w.heap.size w (w1.setCell ⟨wr.heap.size, xl, none⟩ (.int .i64 1))) := e5
        clear e4 e5
        generalize w1.setCell ⟨wr.heap.size, xl, none⟩ (.int .i64 1) = w2 at *
        go_loopw [4] (fun x wq => x = .slice (some ⟨b, 0, none⟩) 1 cv ∧ wq = w2) (fun _ _ => 0)
        case atStart => exact ⟨rfl, rfl⟩
        case round =>
          obtain ⟨rfl, rfl⟩ := hrel
          go_wp2_with fail
          go_ret2
          exact ⟨_, _, rfl, HHL.out, HO.out, HB.out⟩
      have hne1 : ((N0 : Int) == 1) = false := by simp; omega
      go_wp2_with (at_make; refine wpList_make_full _ rfl (.tmp 44) (.tmp 44) 82 rfl wr.heap.size 3 j0 (.int .i64 0) 1 Try.underlying82 hj hy0 hy1 .i64 .i64 _ _ F.length rfl rfl rfl rfl (by rw [hy2]; omega) (by unfold maxLen; omega) (Nat.le_refl _) ?_; intro w1 hown hgrow)
      have hown1 := made_zeros hown
      rw [← Hf.up_zero'] at hown1
      have hB1 : Below wr.heap.size wr w1 := (Below.refl _ _).grown hgrow (Nat.le_refl _) (fun k hk => by cases hk)
      have hbun1 := hbun.out.keep hB1
      have HR : Hid (Rst F w w1 wr.heap.size (.slice av N0 cv) bl (List.replicate F.length 0)) := by
        refine ⟨hbun1, HST.out.perm (by rw [hab.out]), row_lower hown1 hsz, fun g hg e => ?_, fun g hg i hi => ?_, hbel.out.trans (hB1.mono hsz)⟩
        · have := (own_lt (hbun.out.signs g hg) e).2
          omega
        · have hm : Hf.ab g ∈ Hf.init F F.length := by rw [← hab.out]; exact List.mem_map_of_mem hg
          obtain ⟨j, _, _, e⟩ := Hf.init_mem hm
          have e1 : g.sg = [j] := congrArg (·.2.2) e
          have e2 : g.low = j := congrArg (·.2.1) e
          rw [e1] at hi
          rw [e2, List.mem_singleton.1 hi]
          exact Nat.le_refl _
      have HN0 : Hid (N0 = (Hf.init F F.length).length) := by rw [← HN.out, ← hab.out, List.length_map]; rfl
      have HN1 : Hid (N0 ≠ 1) := hone
      have HST2 : Hid (∃ l out, Rst F w w1 wr.heap.size (.slice av N0 cv) l out ∧ (N0 = 0 → out = List.replicate F.length 0 ∧ l.length = 0) ∧ (N0 ≠ 0 → 1 ≤ l.length)) := ⟨bl, _, HR.out, fun e => ⟨rfl, by rw [HN.out]; exact e⟩, fun h => by rw [HN.out]; omega⟩
      clear hown hgrow hown1 hB1 hbun1 hbun hab hbel HR HST HN hone
      generalize hOb : wr.heap.size = Ob at *
      clear hOb
      go_wp2_with fail
      clear hne1
      go_loopw [4] (fun x wq => Hid (∃ l out, Rst F w wq Ob x l out ∧ (N0 = 0 → out = List.replicate F.length 0 ∧ l.length = 0) ∧ (N0 ≠ 0 → 1 ≤ l.length))) (fun x _ => sliceLen x)
      case atStart => exact HST2
      case round =>
        obtain ⟨l, out, hS, hz, hnz⟩ := hrel.out
        have hll : l.length ≤ 256 := by have := hS.inv.few 0; rw [List.length_map] at this; omega
        obtain ⟨av, cv, rfl⟩ := hS.bun.form
        have HS : Hid (Rst F w wr Ob (.slice av l.length cv) l out) := hS
        have HZ : Hid (N0 = 0 → out = List.replicate F.length 0 ∧ l.length = 0) := hz
        have HNZ : Hid (N0 ≠ 0 → 1 ≤ l.length) := hnz
        clear hS hz hnz hrel
        by_cases hlt : 1 < l.length
        · have hsz := HS.out.bel.size
          obtain ⟨W1, hW1⟩ : ∃ W1, W1 = (wr.alloc (.cells #[.int .i64 0, .slice none 0 0] 153)).alloc (.cells #[.int .i64 0, .slice none 0 0] 153) := ⟨_, rfl⟩
          have hb1 : Below wr.heap.size wr W1 := by rw [hW1]; exact ((Below.refl _ _).alloc (Nat.le_refl _) _).alloc (by simp) _
          have A1 : BBox W1 wr.heap.size Hf.G.z := by rw [hW1]; exact (BBox.new wr Hf.G.z).below ((Below.refl _ _).alloc (Nat.le_refl _) _) (by simp)
          have B1 : BBox W1 (wr.heap.size + 1) Hf.G.z := by
            rw [hW1]
            have := BBox.new (wr.alloc (.cells #[.int .i64 0, .slice none 0 0] 153)) Hf.G.z
            rw [World.size_alloc] at this
            exact this
          have hbun1 := HS.out.bun.keep hb1
          have hle := least_any w.heap.size _ l W1 hbun1 (by have := hb1.size; omega) (by omega) hll
          have hka := Hf.amin_lt l l.length (by omega)
          have HPX : Hid (_) := Hf.rest_perm l _ hka
          have HFX : Hid (_) := Hf.amin_mem l
          obtain ⟨sb, sc, es, _, _⟩ := hbun1.sign (Hf.nth_mem hka)
          have HXL : Hid (∀ g ∈ l, ∀ b, g.sv.ownBlock = some b → b < wr.heap.size ∧ b ≠ Ob) := fun g hg b hb => ⟨(own_lt (HS.out.bun.signs g hg) hb).2, fun e => HS.out.apart g hg (by rw [← e]; exact hb)⟩
          rw [es] at hle
          obtain ⟨x, hx⟩ : ∃ x, Hf.nth l (Hf.amin l l.length) = x := ⟨_, rfl⟩
          rw [hx] at hle HPX HFX es
          obtain ⟨R, hR⟩ : ∃ R, Hf.rest l (Hf.amin l l.length) l.length = R := ⟨_, rfl⟩
          rw [hR] at hle HPX
          have HES : Hid (x.sv = .slice (some ⟨sb, 0, none⟩) x.sg.length sc) := es
          have HLR : Hid (l.length = R.length + 1) := by have := HPX.out.length_eq; show _ = _; simpa using this
          obtain ⟨a0, a1, af0, af1, alt⟩ := A1
          have HA1 : Hid (BBox W1 wr.heap.size Hf.G.z) := ⟨a0, a1, af0, af1, alt⟩
          have HB1 : Hid (BBox W1 (wr.heap.size + 1) Hf.G.z) := B1
          have Hb1 : Hid (Below wr.heap.size wr W1) := hb1
          have HW1 : Hid (W1.heap.size = wr.heap.size + 2) := by rw [hW1]; show _ = _; simp
          clear hbun1 hka es hx hR a0 a1 af0 af1 alt B1 hb1
          rw [hW1] at hle
          generalize x.sg.length = xn at *
          go_wp2_with fail
          refine hle.mono ?_
          rw [← hW1]
          rintro e w2 ⟨v2, rfl, hbun2, hv2, hb2⟩
          clear hle hW1
          have hRl : R.length ≤ 256 := by have := HLR.out; omega
          have hw1 := HW1.out
          have A2 := HA1.out.below hb2 HA1.out.lt
          have B2 := HB1.out.below hb2 HB1.out.lt
          obtain ⟨W3, hW3⟩ : ∃ W3, W3 = (w2.setCell ⟨wr.heap.size, 0, none⟩ (.int .i64 x.wt)).setCell ⟨wr.heap.size, 1, none⟩ (.slice (some ⟨sb, 0, none⟩) xn sc) := ⟨_, rfl⟩
          have hk3 : Kept (fun q => q ≠ wr.heap.size) w2 W3 := by rw [hW3]; exact ((Kept.refl _ _).setCell (by simp) _).setCell (by simp) _
          have A3 : BBox W3 wr.heap.size ⟨x.wt, x.low, x.sg, .slice (some ⟨sb, 0, none⟩) xn sc⟩ := by rw [hW3]; exact A2.store ⟨x.wt, x.low, x.sg, .slice (some ⟨sb, 0, none⟩) xn sc⟩
          have B3 := B2.kept hk3 (by omega)
          have hRm : ∀ g ∈ R, g ∈ l := fun g hg => HPX.out.mem_iff.2 (List.mem_cons_of_mem _ hg)
          have hbun3 : Bun W3 w.heap.size v2 R := hbun2.kept hk3 (fun b hb => by have := hv2 b hb; omega) (fun g hg b hb => by have := (HXL.out g (hRm g hg) b hb).1; omega)
          have hz3 : w2.heap.size ≤ W3.heap.size := hk3.size
          have hle := least_any w.heap.size _ R W3 hbun3 (by have := hb2.size; omega) (by have := HLR.out; omega) hRl
          have hka := Hf.amin_lt R R.length (by have := HLR.out; omega)
          have HPY : Hid (_) := Hf.rest_perm R _ hka
          have HFY : Hid (_) := Hf.amin_mem R
          obtain ⟨tb, tc, et, _, _⟩ := hbun3.sign (Hf.nth_mem hka)
          rw [et] at hle
          obtain ⟨y, hy⟩ : ∃ y, Hf.nth R (Hf.amin R R.length) = y := ⟨_, rfl⟩
          rw [hy] at hle HPY HFY et
          obtain ⟨R2, hR2⟩ : ∃ R2, Hf.rest R (Hf.amin R R.length) R.length = R2 := ⟨_, rfl⟩
          rw [hR2] at hle HPY
          have HET : Hid (y.sv = .slice (some ⟨tb, 0, none⟩) y.sg.length tc) := et
          have HLR2 : Hid (R.length = R2.length + 1) := by have := HPY.out.length_eq; show _ = _; simpa using this
          have HA3 : Hid (BBox W3 wr.heap.size ⟨x.wt, x.low, x.sg, .slice (some ⟨sb, 0, none⟩) xn sc⟩) := A3
          have HB3 : Hid (BBox W3 (wr.heap.size + 1) Hf.G.z) := B3
          have HZ3 : Hid (W1.heap.size ≤ W3.heap.size ∧ Below wr.heap.size wr W3) := by
            have h12 := hb2.size
            refine ⟨by omega, (Hb1.out.trans (hb2.mono (by omega))).trans (hk3.below (by omega) fun q hq => by omega)⟩
          have HRM : Hid (∀ g ∈ R, g ∈ l) := hRm
          obtain ⟨a0, a1, af0, af1, _⟩ := A2
          rw [hW3] at hle
          generalize y.sg.length = yn at *
          clear hbun2 hv2 hb2 hk3 A3 B3 B2 hRm hbun3 hz3 hka et hy hR2 HA1 HB1 Hb1
          go_wp2_with fail
          refine hle.mono ?_
          rw [← hW3]
          rintro e w4 ⟨v4, rfl, hbun4, hv4, hb4⟩
          clear hle hW3 a0 a1 af0 af1
          have hz34 := hb4.size
          have hz13 := HZ3.out.1
          have A4 := HA3.out.below hb4 HA3.out.lt
          have B4 := HB3.out.below hb4 HB3.out.lt
          obtain ⟨W5, hW5⟩ : ∃ W5, W5 = (w4.setCell ⟨wr.heap.size + 1, 0, none⟩ (.int .i64 y.wt)).setCell ⟨wr.heap.size + 1, 1, none⟩ (.slice (some ⟨tb, 0, none⟩) yn tc) := ⟨_, rfl⟩
          have hk5 : Kept (fun q => q ≠ wr.heap.size + 1) w4 W5 := by rw [hW5]; exact ((Kept.refl _ _).setCell (by simp) _).setCell (by simp) _
          have hs5 : W5.heap.size = w4.heap.size := by rw [hW5]; simp
          have B5 : BBox W5 (wr.heap.size + 1) ⟨y.wt, y.low, y.sg, .slice (some ⟨tb, 0, none⟩) yn tc⟩ := by rw [hW5]; exact B4.store ⟨y.wt, y.low, y.sg, .slice (some ⟨tb, 0, none⟩) yn tc⟩
          have A5 := A4.kept hk5 (by omega)
          have hR2m : ∀ g ∈ R2, g ∈ l := fun g hg => HRM.out g (HPY.out.mem_iff.2 (List.mem_cons_of_mem _ hg))
          have hbun5 : Bun W5 w.heap.size v4 R2 := hbun4.kept hk5 (fun b hb => by have := hv4 b hb; omega) (fun g hg b hb => by have := (HXL.out g (hR2m g hg) b hb).1; omega)
          have hxm : x ∈ l := HPX.out.mem_iff.2 List.mem_cons_self
          have hym : y ∈ l := HRM.out y (HPY.out.mem_iff.2 List.mem_cons_self)
          have hwr5 : Below wr.heap.size wr W5 := (HZ3.out.2.trans (hb4.mono (by omega))).trans (hk5.below (by omega) fun q hq => by omega)
          have hOb : w.heap.size ≤ Ob ∧ Ob < wr.heap.size := own_lt HS.out.row rfl
          have hinv : Hf.Inv F (Hf.ab x :: Hf.ab y :: R2.map Hf.ab) out := HS.out.inv.perm ((HPX.out.map Hf.ab).trans ((HPY.out.map Hf.ab).cons _))
          have hA : ∀ c ∈ Hf.ab y :: R2.map Hf.ab, Hf.nlt c (Hf.ab x) := fun c hc => by
            have hc : c ∈ (y :: R2).map Hf.ab := hc
            obtain ⟨q, hq, rfl⟩ := List.mem_map.1 hc
            exact Hf.nlt_of' (HFX.out q (HRM.out q (HPY.out.mem_iff.2 hq)))
          have hBq : ∀ c ∈ R2.map Hf.ab, Hf.nlt c (Hf.ab y) := fun c hc => by
            obtain ⟨q, hq, rfl⟩ := List.mem_map.1 hc
            exact Hf.nlt_of' (HFY.out q (HPY.out.mem_iff.2 (List.mem_cons_of_mem _ hq)))
          have hnd : (x.sg ++ y.sg).Nodup := by
            have := hinv.st.nodup
            simp only [List.flatMap_cons] at this
            rw [← List.append_assoc, List.nodup_append] at this
            exact this.1
          have hltF : ∀ i ∈ x.sg ++ y.sg, i < F.length := fun i hi => by
            rcases List.mem_append.1 hi with h | h
            · exact hinv.st.lt (Hf.ab x) List.mem_cons_self i h
            · exact hinv.st.lt (Hf.ab y) (List.mem_cons_of_mem _ List.mem_cons_self) i h
          have hperm := Hf.both_perm hnd hltF
          have hstep := hinv.step (s := Hf.both x.sg y.sg F.length) hA hBq hperm
          have hlow := Hf.both_low hperm (hinv.st.low (Hf.ab x) List.mem_cons_self) (hinv.st.low (Hf.ab y) (List.mem_cons_of_mem _ List.mem_cons_self)) (HS.out.least x hxm) (HS.out.least y hym)
          have hsl : x.sg.length ≤ 256 ∧ y.sg.length ≤ 256 := by
            have := hinv.st.count
            simp only [List.flatMap_cons, List.length_append, Hf.ab] at this
            omega
          have hwt : x.wt + y.wt ≤ 268435456 := by
            have := hinv.st.wt
            simp only [List.map_cons, List.sum_cons, Hf.ab] at this
            omega
          obtain ⟨jw, hjw⟩ : ∃ jw, x.wt + y.wt = jw := ⟨_, rfl⟩
          have hjwi : (x.wt : Int) + (y.wt : Int) = (jw : Int) := by omega
          have hjb : jw ≤ 268435456 := by omega
          obtain ⟨W6, hW6⟩ : ∃ W6, W6 = W5.alloc (.cells #[.int .i64 jw, .slice none 0 0] 153) := ⟨_, rfl⟩
          have hb6 : Below W5.heap.size W5 W6 := by rw [hW6]; exact (Below.refl _ _).alloc (Nat.le_refl _) _
          have hs6 : W6.heap.size = w4.heap.size + 1 := by rw [hW6]; simp [hs5]
          have C6 : Hid (BBox W6 w4.heap.size ⟨jw, 0, [], .slice none 0 0⟩) := by
            rw [hW6, ← hs5]; exact BBox.new W5 ⟨jw, 0, [], .slice none 0 0⟩
          have HA6 : Hid (BBox W6 wr.heap.size ⟨x.wt, x.low, x.sg, .slice (some ⟨sb, 0, none⟩) xn sc⟩) := A5.below hb6 A5.lt
          have HB6 : Hid (BBox W6 (wr.heap.size + 1) ⟨y.wt, y.low, y.sg, .slice (some ⟨tb, 0, none⟩) yn tc⟩) := B5.below hb6 B5.lt
          have HBUN6 : Hid (Bun W6 w.heap.size v4 R2) := hbun5.keep hb6
          have hwr6 : Below wr.heap.size wr W6 := hwr5.trans (hb6.mono (by omega))
          have HWR6 : Hid (Below wr.heap.size wr W6) := hwr6
          have HXR6 : Hid (W6.ownsRow w.heap.size 3 1 x.sv x.sg.length ((Hf.up x.sg).map Iv)) := row_below (HS.out.bun.signs x hxm) hwr6
          have HYR6 : Hid (W6.ownsRow w.heap.size 3 1 y.sv y.sg.length ((Hf.up y.sg).map Iv)) := row_below (HS.out.bun.signs y hym) hwr6
          have HOUT6 : Hid (W6.ownsRow w.heap.size 3 1 (.slice (some ⟨Ob, 0, none⟩) F.length F.length) F.length ((Hf.up out).map Iv)) := row_below HS.out.row hwr6
          have HV4 : Hid (∀ b, v4.ownBlock = some b → w4.heap.size ≠ b ∧ Ob ≠ b ∧ w.heap.size ≤ b) := fun b hb => by
            have h1 := hv4 b hb
            have h2 := (own_lt hbun4.row hb).2
            exact ⟨by omega, by omega, by omega⟩
          have HSTEP : Hid (Hf.Inv F ((jw, min x.low y.low, Hf.both x.sg y.sg F.length) :: R2.map Hf.ab) (Hf.bump out (Hf.both x.sg y.sg F.length))) := by
            have : Hf.Inv F ((x.wt + y.wt, min x.low y.low, Hf.both x.sg y.sg F.length) :: R2.map Hf.ab) (Hf.bump out (Hf.both x.sg y.sg F.length)) := hstep
            rw [hjw] at this
            exact this
          have HLOW : Hid (_) := hlow
          have HOWN : Hid (out.length = F.length ∧ ∀ i, out.getD i 0 ≤ 256) := ⟨hinv.len, fun i => by have := hinv.few i; omega⟩
          have HXY : Hid (x ∈ l ∧ y ∈ l ∧ ∀ g ∈ R2, g ∈ l) := ⟨hxm, hym, hR2m⟩
          have HSL : Hid (x.sg.length ≤ 256 ∧ y.sg.length ≤ 256) := hsl
          have HSZ : Hid (W6.heap.size = w4.heap.size + 1 ∧ wr.heap.size + 1 < w4.heap.size) := ⟨hs6, by have := B4.lt; omega⟩
          have a40 := A4.c0
          have b40 := B4.c0
          have b41 := B4.c1
          have bf0 := B4.f0
          have bf1 := B4.f1
          dsimp only at a40
          have hOb1 := hOb.1
          have hOb2 := hOb.2
          have hrb : wr.heap.size + 1 < w4.heap.size := HSZ.out.2
          rw [hW5] at hW6
          clear hOb hinv hA hBq hnd hltF hperm hstep hlow hsl hwt hjw hb6 hs6 hs5 hwr6 hwr5 hbun5 hbun4 hv4 hb4 hk5 A4 B4 A5 B5 hR2m hxm hym hz34 hz13 hW5 HA3 HB3 HZ3 HRM
          go_wp2_with fail
          rw [← hW6]
          have HXB : Hid (∀ g ∈ l, ∀ b, g.sv.ownBlock = some b → b ≠ Ob ∧ b ≠ w4.heap.size) := fun g hg b hb => by
            obtain ⟨q1, q2⟩ := HXL.out g hg b hb
            exact ⟨q2, by omega⟩
          have HHF : Hid (∀ wq, Kept (fun q => q ≠ Ob ∧ q ≠ w4.heap.size) W6 wq → Ints wq (.slice (some ⟨sb, 0, none⟩) xn sc) (Hf.up x.sg) ∧ Ints wq (.slice (some ⟨tb, 0, none⟩) yn tc) (Hf.up y.sg) ∧ BBox wq wr.heap.size ⟨x.wt, x.low, x.sg, .slice (some ⟨sb, 0, none⟩) xn sc⟩ ∧ BBox wq (wr.heap.size + 1) ⟨y.wt, y.low, y.sg, .slice (some ⟨tb, 0, none⟩) yn tc⟩) := by
            intro wq hq
            have hx := own_kept2 HXR6.out hq (HXB.out x HXY.out.1)
            have hy := own_kept2 HYR6.out hq (HXB.out y HXY.out.2.1)
            rw [HES.out] at hx
            rw [HET.out] at hy
            refine ⟨Ints.of_own (by rw [Hf.up_length]; exact hx), Ints.of_own (by rw [Hf.up_length]; exact hy), HA6.out.kept hq ⟨by omega, by omega⟩, HB6.out.kept hq ⟨by omega, by omega⟩⟩
          clear hW6 a40 b40 b41 bf0 bf1 hjwi
          generalize hBa : wr.heap.size = Ba at *
          have HBA : Hid (wr.heap.size = Ba) := hBa
          clear hBa
          generalize hBo : w4.heap.size = Bo at *
          have HBO : Hid (w4.heap.size = Bo) := hBo
          clear hBo
          go_loopw [78] (fun t wq => ∃ (k : Nat) (u : Value), k ≤ F.length ∧ t = .int .i64 k ∧ wq.ownsRow W6.heap.size 3 1 u (Hf.both x.sg y.sg k).length ((Hf.up (Hf.both x.sg y.sg k)).map Iv) ∧ Hid (BBox wq Bo ⟨jw, 0, [], u⟩) ∧ wq.ownsRow w.heap.size 3 1 (.slice (some ⟨Ob, 0, none⟩) F.length F.length) F.length ((Hf.up (Hf.bump out (Hf.both x.sg y.sg k))).map Iv) ∧ Hid (Kept (fun q => q ≠ Ob ∧ q ≠ Bo) W6 wq)) (fun t _ => F.length - (intOf t).toNat)
          case atStart => exact ⟨0, .slice none 0 0, by omega, rfl, World.ownsRow_nil _ _ _ _, C6, HOUT6.out, Kept.refl _ _⟩
          case round =>
            obtain ⟨k, u, hkF, rfl, hown, hbo, hrow, hkp⟩ := hrel
            by_cases hlt3 : k < F.length
            · obtain ⟨hIx, hIy, hBa, hBb⟩ := HHF.out wr hkp.out
              have hhx := has_any _ x.sg k wr hIx HSL.out.1
              have hhy := has_any _ y.sg k wr hIy HSL.out.2
              have p1 := hBa.c1
              have p2 := hBb.c1
              dsimp only at p1 p2
              clear hIx hIy hBa hBb
              by_cases hmx : k ∈ x.sg
              · rw [decide_eq_true hmx] at hhx
                have hmem : k ∈ x.sg ∨ k ∈ y.sg := .inl hmx
                clear hhy hmx
                have HBN : Hid (Hf.both x.sg y.sg (k + 1) = Hf.both x.sg y.sg k ++ [k]) := (Hf.both_next x.sg y.sg k).trans (by rw [if_pos hmem])
                have HUN : Hid (Hf.bump out (Hf.both x.sg y.sg (k + 1)) = (Hf.bump out (Hf.both x.sg y.sg k)).set k ((Hf.bump out (Hf.both x.sg y.sg k)).getD k 0 + 1)) := by show _ = _; rw [HBN.out, Hf.bump_more]
                have hX := Hf.bump_bound (out := out) (Hf.both_nodup x.sg y.sg k) (fun i hi => by have := Hf.both_lt hi; have := HOWN.out.1; omega) HOWN.out.2 k
                have hbl := Hf.both_length x.sg y.sg k
                have hc1 := own_at hrow k (by rw [Hf.up_length, Hf.bump_length, HOWN.out.1]; exact hlt3)
                rw [Hf.up_get] at hc1
                have hfz := hrow.frozenAt k
                have HO1 : Hid ((wr.ownsRow w.heap.size 3 1 (.slice (some ⟨Ob, 0, none⟩) F.length F.length) F.length ((Hf.up (Hf.bump out (Hf.both x.sg y.sg k))).map Iv))) := hrow
                generalize (Hf.bump out (Hf.both x.sg y.sg k)).getD k 0 = X at *
                have hwq := hkp.out.size
                have HQ : Hid (∀ g9 cap9 w9, w9.ownsRow W6.heap.size 3 1 (.slice (some ⟨g9, 0, none⟩) ((Hf.both x.sg y.sg k).length + 1) cap9) ((Hf.both x.sg y.sg k).length + 1) ((Hf.up (Hf.both x.sg y.sg k)).map Iv ++ [.int .i64 (k : Int)]) → (wr.alloc (.cells #[.int .i64 (k : Int)] 3)).grownBy w9 u.ownBlock →
                    w9.cell? ⟨Bo, 1, none⟩ = some u ∧ w9.frozen? ⟨Bo, 1, none⟩ = false ∧ w9.cell? ⟨Ob, k, none⟩ = some (.int .i64 (X : Int)) ∧ w9.frozen? ⟨Ob, k, none⟩ = false ∧
                    (((w9.setCell ⟨Bo, 1, none⟩ (.slice (some ⟨g9, 0, none⟩) ((Hf.both x.sg y.sg k).length + 1) cap9)).setCell ⟨Ob, k, none⟩ (.int .i64 ((X : Int) + 1))).ownsRow W6.heap.size 3 1 (.slice (some ⟨g9, 0, none⟩) ((Hf.both x.sg y.sg k).length + 1) cap9) (Hf.both x.sg y.sg (k + 1)).length ((Hf.up (Hf.both x.sg y.sg (k + 1))).map Iv) ∧
                      BBox ((w9.setCell ⟨Bo, 1, none⟩ (.slice (some ⟨g9, 0, none⟩) ((Hf.both x.sg y.sg k).length + 1) cap9)).setCell ⟨Ob, k, none⟩ (.int .i64 ((X : Int) + 1))) Bo ⟨jw, 0, [], .slice (some ⟨g9, 0, none⟩) ((Hf.both x.sg y.sg k).length + 1) cap9⟩ ∧
                      ((w9.setCell ⟨Bo, 1, none⟩ (.slice (some ⟨g9, 0, none⟩) ((Hf.both x.sg y.sg k).length + 1) cap9)).setCell ⟨Ob, k, none⟩ (.int .i64 ((X : Int) + 1))).ownsRow w.heap.size 3 1 (.slice (some ⟨Ob, 0, none⟩) F.length F.length) F.length ((Hf.up (Hf.bump out (Hf.both x.sg y.sg (k + 1)))).map Iv) ∧
                      Kept (fun q => q ≠ Ob ∧ q ≠ Bo) W6 ((w9.setCell ⟨Bo, 1, none⟩ (.slice (some ⟨g9, 0, none⟩) ((Hf.both x.sg y.sg k).length + 1) cap9)).setCell ⟨Ob, k, none⟩ (.int .i64 ((X : Int) + 1))))) := by
                  intro g9 cap9 w9 ho9 hg9
                  have hnu : ∀ q, u.ownBlock = some q → W6.heap.size ≤ q := fun q hq => (own_lt hown hq).1
                  have hs6 := HSZ.out.1
                  have hkA : Kept (fun q => u.ownBlock ≠ some q) wr w9 := ((Kept.refl _ wr).alloc _).grown hg9 fun q hq hp => hp hq
                  have hBO := hbo.out.kept hkA (fun e => by have := hnu _ e; omega)
                  have hR9 := own_kept2 HO1.out hkA (fun q hq e => by have := hnu _ e; simp [Value.ownBlock] at hq; omega)
                  have hc9 := own_at hR9 k (by rw [Hf.up_length, Hf.bump_length, HOWN.out.1]; exact hlt3)
                  have hcE : w9.cell? ⟨Ob, k, none⟩ = some (.int .i64 (X : Int)) := by
                    have e1 := hkA.block Ob (own_lt HO1.out rfl).2 (fun e => by have := hnu _ e; omega)
                    rw [World.cell?_of_block (a := ⟨Ob, k, none⟩) e1]
                    exact hc1
                  have hk2 : Kept (fun q => q ≠ Bo) w9 (w9.setCell ⟨Bo, 1, none⟩ (.slice (some ⟨g9, 0, none⟩) ((Hf.both x.sg y.sg k).length + 1) cap9)) := (Kept.refl _ _).setCell (by simp) _
                  have hk3 : Kept (fun q => q ≠ Ob) (w9.setCell ⟨Bo, 1, none⟩ (.slice (some ⟨g9, 0, none⟩) ((Hf.both x.sg y.sg k).length + 1) cap9)) ((w9.setCell ⟨Bo, 1, none⟩ (.slice (some ⟨g9, 0, none⟩) ((Hf.both x.sg y.sg k).length + 1) cap9)).setCell ⟨Ob, k, none⟩ (.int .i64 ((X : Int) + 1))) := (Kept.refl _ _).setCell (by simp) _
                  have hg9b := (own_lt ho9 (show (Value.slice (some ⟨g9, 0, none⟩) ((Hf.both x.sg y.sg k).length + 1) cap9).ownBlock = some g9 from rfl)).1
                  refine ⟨hBO.c1, hBO.f1, hcE, hR9.frozenAt k, ?_, ?_, ?_, ?_⟩
                  · have h1 := own_kept2 (own_kept2 ho9 hk2 (fun q hq => by simp [Value.ownBlock] at hq; omega)) hk3 (fun q hq => by simp [Value.ownBlock] at hq; omega)
                    rw [HBN.out, List.length_append]
                    have e : (Hf.up (Hf.both x.sg y.sg k ++ [k])).map Iv = (Hf.up (Hf.both x.sg y.sg k)).map Iv ++ [.int .i64 (k : Int)] := by simp [Hf.up, Iv]
                    rw [e]
                    exact h1
                  · exact (hBO.store1 (.slice (some ⟨g9, 0, none⟩) ((Hf.both x.sg y.sg k).length + 1) cap9) [] 0).kept hk3 (by omega)
                  · have h1 := own_store (own_kept2 hR9 hk2 (fun q hq => by simp [Value.ownBlock] at hq; omega)) k (((X + 1 : Nat) : Int))
                    rw [← Hf.up_set', ← HUN.out] at h1
                    exact h1
                  · exact ((hkp.out.alloc _).grownNew hg9 hnu).setCell (by simp) _ |>.setCell (by simp) _
                obtain ⟨ua, un, uc, hu⟩ : ∃ a n c, u = .slice a n c := by
                  rcases hown.2 with ⟨e, _⟩ | ⟨_, _, _, e, _⟩
                  · exact ⟨_, _, _, e⟩
                  · exact ⟨_, _, _, e⟩
                subst hu
                have bo1 := hbo.out.c1
                dsimp only at bo1
                clear hrow hmem hbo
                go_wp2_with fail
                refine hhx.mono ?_
                rintro e w8 ⟨rfl, hw8⟩
                have hw8 := hw8.symm
                subst hw8
                clear hhx
                go_wp2_with (at_builtin; refine wpList_append_lies _ rfl (.tmp 92) (.tmp 94) 82 rfl W6.heap.size 3 j0 (.int .i64 0) 1 8 Try.underlying82 hj hy0 hy1 hy2 rfl (by decide) _ _ _ rfl (hown.alloc _) ⟨wr.heap.size, 0, none⟩ 1 1 [.int .i64 (k : Int)] rfl rfl (by intro j u' hj'; match j, hj' with | 0, hj' => simp at hj'; subst hj'; simp [Addr.add]) (by intro u' hu'; simp at hu'; subst hu'; rfl) (by decide) (by unfold maxLen; omega) (by omega) (by simp; omega) (wr.heap.size + 1) (by simp) ?_; intro g9 cap9 w9 hown9 hgrow9 _ hlt9; obtain ⟨e0, e1, e2, e3, e4⟩ := HQ.out _ _ _ hown9 hgrow9; clear hown9 hgrow9)
                have HFIN : Hid (_) := e4
                clear e4 e0 e1 e2 e3 hc1 hown
                go_wp2_with fail
                go_roundw
                case rel => exact ⟨k + 1, _, by omega, by go_num, HFIN.out.1, HFIN.out.2.1, HFIN.out.2.2.1, HFIN.out.2.2.2⟩
                case measure => simp only [intOf]; omega
              · rw [decide_eq_false hmx] at hhx
                by_cases hmy : k ∈ y.sg
                · rw [decide_eq_true hmy] at hhy
                  have hmem : k ∈ x.sg ∨ k ∈ y.sg := .inr hmy
                  clear hmx hmy
                  have HBN : Hid (Hf.both x.sg y.sg (k + 1) = Hf.both x.sg y.sg k ++ [k]) := (Hf.both_next x.sg y.sg k).trans (by rw [if_pos hmem])
                  have HUN : Hid (Hf.bump out (Hf.both x.sg y.sg (k + 1)) = (Hf.bump out (Hf.both x.sg y.sg k)).set k ((Hf.bump out (Hf.both x.sg y.sg k)).getD k 0 + 1)) := by show _ = _; rw [HBN.out, Hf.bump_more]
                  have hX := Hf.bump_bound (out := out) (Hf.both_nodup x.sg y.sg k) (fun i hi => by have := Hf.both_lt hi; have := HOWN.out.1; omega) HOWN.out.2 k
                  have hbl := Hf.both_length x.sg y.sg k
                  have hc1 := own_at hrow k (by rw [Hf.up_length, Hf.bump_length, HOWN.out.1]; exact hlt3)
                  rw [Hf.up_get] at hc1
                  have hfz := hrow.frozenAt k
                  have HO1 : Hid ((wr.ownsRow w.heap.size 3 1 (.slice (some ⟨Ob, 0, none⟩) F.length F.length) F.length ((Hf.up (Hf.bump out (Hf.both x.sg y.sg k))).map Iv))) := hrow
                  generalize (Hf.bump out (Hf.both x.sg y.sg k)).getD k 0 = X at *
                  have hwq := hkp.out.size
                  have HQ : Hid (∀ g9 cap9 w9, w9.ownsRow W6.heap.size 3 1 (.slice (some ⟨g9, 0, none⟩) ((Hf.both x.sg y.sg k).length + 1) cap9) ((Hf.both x.sg y.sg k).length + 1) ((Hf.up (Hf.both x.sg y.sg k)).map Iv ++ [.int .i64 (k : Int)]) → (wr.alloc (.cells #[.int .i64 (k : Int)] 3)).grownBy w9 u.ownBlock →
                      w9.cell? ⟨Bo, 1, none⟩ = some u ∧ w9.frozen? ⟨Bo, 1, none⟩ = false ∧ w9.cell? ⟨Ob, k, none⟩ = some (.int .i64 (X : Int)) ∧ w9.frozen? ⟨Ob, k, none⟩ = false ∧
                      (((w9.setCell ⟨Bo, 1, none⟩ (.slice (some ⟨g9, 0, none⟩) ((Hf.both x.sg y.sg k).length + 1) cap9)).setCell ⟨Ob, k, none⟩ (.int .i64 ((X : Int) + 1))).ownsRow W6.heap.size 3 1 (.slice (some ⟨g9, 0, none⟩) ((Hf.both x.sg y.sg k).length + 1) cap9) (Hf.both x.sg y.sg (k + 1)).length ((Hf.up (Hf.both x.sg y.sg (k + 1))).map Iv) ∧
                        BBox ((w9.setCell ⟨Bo, 1, none⟩ (.slice (some ⟨g9, 0, none⟩) ((Hf.both x.sg y.sg k).length + 1) cap9)).setCell ⟨Ob, k, none⟩ (.int .i64 ((X : Int) + 1))) Bo ⟨jw, 0, [], .slice (some ⟨g9, 0, none⟩) ((Hf.both x.sg y.sg k).length + 1) cap9⟩ ∧
                        ((w9.setCell ⟨Bo, 1, none⟩ (.slice (some ⟨g9, 0, none⟩) ((Hf.both x.sg y.sg k).length + 1) cap9)).setCell ⟨Ob, k, none⟩ (.int .i64 ((X : Int) + 1))).ownsRow w.heap.size 3 1 (.slice (some ⟨Ob, 0, none⟩) F.length F.length) F.length ((Hf.up (Hf.bump out (Hf.both x.sg y.sg (k + 1)))).map Iv) ∧
                        Kept (fun q => q ≠ Ob ∧ q ≠ Bo) W6 ((w9.setCell ⟨Bo, 1, none⟩ (.slice (some ⟨g9, 0, none⟩) ((Hf.both x.sg y.sg k).length + 1) cap9)).setCell ⟨Ob, k, none⟩ (.int .i64 ((X : Int) + 1))))) := by
                    intro g9 cap9 w9 ho9 hg9
                    have hnu : ∀ q, u.ownBlock = some q → W6.heap.size ≤ q := fun q hq => (own_lt hown hq).1
                    have hs6 := HSZ.out.1
                    have hkA : Kept (fun q => u.ownBlock ≠ some q) wr w9 := ((Kept.refl _ wr).alloc _).grown hg9 fun q hq hp => hp hq
                    have hBO := hbo.out.kept hkA (fun e => by have := hnu _ e; omega)
                    have hR9 := own_kept2 HO1.out hkA (fun q hq e => by have := hnu _ e; simp [Value.ownBlock] at hq; omega)
                    have hc9 := own_at hR9 k (by rw [Hf.up_length, Hf.bump_length, HOWN.out.1]; exact hlt3)
                    have hcE : w9.cell? ⟨Ob, k, none⟩ = some (.int .i64 (X : Int)) := by
                      have e1 := hkA.block Ob (own_lt HO1.out rfl).2 (fun e => by have := hnu _ e; omega)
                      rw [World.cell?_of_block (a := ⟨Ob, k, none⟩) e1]
                      exact hc1
                    have hk2 : Kept (fun q => q ≠ Bo) w9 (w9.setCell ⟨Bo, 1, none⟩ (.slice (some ⟨g9, 0, none⟩) ((Hf.both x.sg y.sg k).length + 1) cap9)) := (Kept.refl _ _).setCell (by simp) _
                    have hk3 : Kept (fun q => q ≠ Ob) (w9.setCell ⟨Bo, 1, none⟩ (.slice (some ⟨g9, 0, none⟩) ((Hf.both x.sg y.sg k).length + 1) cap9)) ((w9.setCell ⟨Bo, 1, none⟩ (.slice (some ⟨g9, 0, none⟩) ((Hf.both x.sg y.sg k).length + 1) cap9)).setCell ⟨Ob, k, none⟩ (.int .i64 ((X : Int) + 1))) := (Kept.refl _ _).setCell (by simp) _
                    have hg9b := (own_lt ho9 (show (Value.slice (some ⟨g9, 0, none⟩) ((Hf.both x.sg y.sg k).length + 1) cap9).ownBlock = some g9 from rfl)).1
                    refine ⟨hBO.c1, hBO.f1, hcE, hR9.frozenAt k, ?_, ?_, ?_, ?_⟩
                    · have h1 := own_kept2 (own_kept2 ho9 hk2 (fun q hq => by simp [Value.ownBlock] at hq; omega)) hk3 (fun q hq => by simp [Value.ownBlock] at hq; omega)
                      rw [HBN.out, List.length_append]
                      have e : (Hf.up (Hf.both x.sg y.sg k ++ [k])).map Iv = (Hf.up (Hf.both x.sg y.sg k)).map Iv ++ [.int .i64 (k : Int)] := by simp [Hf.up, Iv]
                      rw [e]
                      exact h1
                    · exact (hBO.store1 (.slice (some ⟨g9, 0, none⟩) ((Hf.both x.sg y.sg k).length + 1) cap9) [] 0).kept hk3 (by omega)
                    · have h1 := own_store (own_kept2 hR9 hk2 (fun q hq => by simp [Value.ownBlock] at hq; omega)) k (((X + 1 : Nat) : Int))
                      rw [← Hf.up_set', ← HUN.out] at h1
                      exact h1
                    · exact ((hkp.out.alloc _).grownNew hg9 hnu).setCell (by simp) _ |>.setCell (by simp) _
                  obtain ⟨ua, un, uc, hu⟩ : ∃ a n c, u = .slice a n c := by
                    rcases hown.2 with ⟨e, _⟩ | ⟨_, _, _, e, _⟩
                    · exact ⟨_, _, _, e⟩
                    · exact ⟨_, _, _, e⟩
                  subst hu
                  have bo1 := hbo.out.c1
                  dsimp only at bo1
                  clear hrow hmem hbo
                  go_wp2_with fail
                  refine hhx.mono ?_
                  rintro e w8 ⟨rfl, hw8⟩
                  have hw8 := hw8.symm
                  subst hw8
                  clear hhx
                  go_wp2_with fail
                  refine hhy.mono ?_
                  rintro e w8 ⟨rfl, hw8⟩
                  have hw8 := hw8.symm
                  subst hw8
                  clear hhy
                  go_wp2_with (at_builtin; refine wpList_append_lies _ rfl (.tmp 92) (.tmp 94) 82 rfl W6.heap.size 3 j0 (.int .i64 0) 1 8 Try.underlying82 hj hy0 hy1 hy2 rfl (by decide) _ _ _ rfl (hown.alloc _) ⟨wr.heap.size, 0, none⟩ 1 1 [.int .i64 (k : Int)] rfl rfl (by intro j u' hj'; match j, hj' with | 0, hj' => simp at hj'; subst hj'; simp [Addr.add]) (by intro u' hu'; simp at hu'; subst hu'; rfl) (by decide) (by unfold maxLen; omega) (by omega) (by simp; omega) (wr.heap.size + 1) (by simp) ?_; intro g9 cap9 w9 hown9 hgrow9 _ hlt9; obtain ⟨e0, e1, e2, e3, e4⟩ := HQ.out _ _ _ hown9 hgrow9; clear hown9 hgrow9)
                  have HFIN : Hid (_) := e4
                  clear e4 e0 e1 e2 e3 hc1 hown
                  go_wp2_with fail
                  go_roundw
                  case rel => exact ⟨k + 1, _, by omega, by go_num, HFIN.out.1, HFIN.out.2.1, HFIN.out.2.2.1, HFIN.out.2.2.2⟩
                  case measure => simp only [intOf]; omega
                · rw [decide_eq_false hmy] at hhy
                  have HBN : Hid (Hf.both x.sg y.sg (k + 1) = Hf.both x.sg y.sg k) := (Hf.both_next x.sg y.sg k).trans (by rw [if_neg (fun h => h.elim hmx hmy), List.append_nil])
                  clear hmx hmy
                  go_wp2_with fail
                  refine hhx.mono ?_
                  rintro e w8 ⟨rfl, hw8⟩
                  have hw8 := hw8.symm
                  subst hw8
                  clear hhx
                  go_wp2_with fail
                  refine hhy.mono ?_
                  rintro e w8 ⟨rfl, hw8⟩
                  have hw8 := hw8.symm
                  subst hw8
                  clear hhy
                  go_wp2_with fail
                  go_roundw
                  case rel => exact ⟨k + 1, u, by omega, by go_num, by rw [HBN.out]; exact hown, hbo, by rw [HBN.out]; exact hrow, hkp⟩
                  case measure => simp only [intOf]; omega
            · obtain rfl : k = F.length := by omega
              have hS1 := HLOW.out.2.2
              obtain ⟨ug, ucap, hu⟩ : ∃ g c, u = .slice (some ⟨g, 0, none⟩) (Hf.both x.sg y.sg F.length).length c := by
                rcases hown.2 with ⟨_, h0⟩ | ⟨g, cap, _, e, _⟩
                · omega
                · exact ⟨g, cap, e⟩
              subst hu
              have hbunq : Bun wr w.heap.size v4 R2 := HBUN6.out.kept hkp.out (fun b hb => ⟨fun e => (HV4.out b hb).2.1 e.symm, fun e => (HV4.out b hb).1 e.symm⟩) (fun g hg => HXB.out g (HXY.out.2.2 g hg))
              have hrow4 := hbunq.row
              have hs6 := HSZ.out.1
              have hq6 := hkp.out.size
              have hbw : w.heap.size ≤ W6.heap.size := by omega
              have hr2l : R2.length ≤ 256 := by have := HLR.out; have := HLR2.out; omega
              obtain ⟨S, hS⟩ : ∃ S, Hf.both x.sg y.sg F.length = S := ⟨_, rfl⟩
              rw [hS] at hown hbo hrow HLOW HSTEP hS1
              have HFIN : Hid (∀ v10 w10 o1, w10.ownsRow w.heap.size 153 2 v10 (R2.length + 1) (rowB R2 ++ bC ⟨jw, min x.low y.low, S, .slice (some ⟨ug, 0, none⟩) S.length ucap⟩) → (wr.alloc o1).grownBy w10 v4.ownBlock →
                  Rst F w w10 Ob v10 (R2 ++ [⟨jw, min x.low y.low, S, .slice (some ⟨ug, 0, none⟩) S.length ucap⟩]) (Hf.bump out S)) := by
                intro v10 w10 o1 ho10 hg10
                have hkv : Kept (fun q => v4.ownBlock ≠ some q) wr w10 := ((Kept.refl _ wr).alloc _).grown hg10 fun q hq hp => hp hq
                refine ⟨hbunq.more1 ho10 (row_lower hown hbw) ⟨hS1, HLOW.out.1⟩ hg10, ?_, ?_, fun g hg e => ?_, fun g hg i hi => ?_, ?_⟩
                · rw [List.map_append]
                  exact HSTEP.out.perm (List.perm_append_comm (l₁ := [(jw, min x.low y.low, S)]))
                · refine own_kept2 hrow hkv fun q hq e => ?_
                  simp [Value.ownBlock] at hq
                  exact (HV4.out q e).2.1 hq
                · rcases List.mem_append.1 hg with hg | hg
                  · exact (HXB.out g (HXY.out.2.2 g hg) _ e).1 rfl
                  · rw [List.mem_singleton.1 hg] at e
                    have := (own_lt hown e).1
                    omega
                · rcases List.mem_append.1 hg with hg | hg
                  · exact HS.out.least g (HXY.out.2.2 g hg) i hi
                  · rw [List.mem_singleton.1 hg] at hi ⊢
                    exact HLOW.out.2.1 i hi
                · have hb1 : Below w.heap.size w W6 := HS.out.bel.trans (HWR6.out.mono (by have := HBA.out; have := HS.out.bel.size; omega))
                  have hb2 : Below w.heap.size w wr := hb1.trans (hkp.out.below hbw fun q hq => ⟨by omega, by omega⟩)
                  exact (hb2.alloc (by omega) _).grown hg10 (by simp; omega) fun q hq => (HV4.out q hq).2.2
              have bo0 := hbo.out.c0
              have bo1 := hbo.out.c1
              dsimp only at bo0 bo1
              generalize S.length = SL at *
              go_wp2_with (at_builtin; refine wpList_append_own _ rfl (.tmp 104) (.tmp 106) 151 rfl w.heap.size 153 i0 (.agg #[.int .i64 0, .slice none 0 0]) 2 32 Try.underlying151 hi hz0 hz1 hz2 rfl (by decide) _ _ _ rfl (hrow4.alloc _) ⟨wr.heap.size, 0, none⟩ 1 1 (bC ⟨jw, min x.low y.low, S, .slice (some ⟨ug, 0, none⟩) SL ucap⟩) rfl rfl (two_at (by simp) (by simp)) (by simp [bC, Value.oneCell']) (by unfold maxLen; omega) (by omega) (by simp; omega) ?_; intro v10 w10 hown10 hgrow10 _)
              have hR10 := HFIN.out v10 w10 _ hown10 hgrow10
              have HI10 : Hid (∃ l out, Rst F w w10 Ob v10 l out ∧ (N0 = 0 → out = List.replicate F.length 0 ∧ l.length = 0) ∧ (N0 ≠ 0 → 1 ≤ l.length)) := by
                refine ⟨_, _, hR10, fun e => ?_, fun _ => by simp⟩
                have := (HZ.out e).2
                omega
              have HM : Hid (sliceLen v10 < l.length) := by
                show _ < _
                rw [hR10.bun.len]
                have := HLR.out
                have := HLR2.out
                simp
                omega
              clear hR10 hown10 hgrow10 hrow4 hbunq bo0 bo1 hown hrow
              go_wp2_with fail
              go_roundw
              case rel => exact HI10
              case measure => exact HM.out
        · have HHL : Hid (Hf.HL F out) := by
            refine ⟨HS.out.inv.len, fun e => (HZ.out (by rw [HN0.out]; exact e)).1, fun x e => absurd (by rw [HN0.out, e]; rfl) HN1.out, fun e => ?_⟩
            have h1 : l.length = 1 := by have := HNZ.out (by rw [HN0.out]; omega); omega
            obtain ⟨y, rfl⟩ := List.length_eq_one_iff.1 h1
            exact HS.out.inv.done
          go_wp2_with fail
          go_ret2
          exact ⟨_, _, rfl, HHL.out, HS.out.row, HS.out.bel⟩
end Go.Proofs.Ytkhejelmjkpgfaa

namespace Go.Proofs.Ytkhejelmjkpgfaa
open Go.RowKit
set_option maxRecDepth 4000

theorem two_pow_le {m : Nat} (h : m ≤ 48) : 2 ^ m ≤ 281474976710656 := Nat.le_trans (Nat.pow_le_pow_right (by omega) h) (by decide : 2 ^ 48 ≤ 281474976710656)

set_option maxHeartbeats 1000000 in
theorem rkraft_short (v : Value) (l : List Int) (w : World) (h : Ints w v l) (hl : l.length ≤ 140737488351232) (hb : l.length = 0 ∨ 256 < l.length) :
    Calls Try.prog 88 #[v] w fun e w' => e = .returned (.tuple #[.int .i64 0, .int .i64 1]) ∧ w' = w := by
  obtain ⟨a, c, rfl⟩ := h.slice
  rcases hb with hb | hb
  · obtain rfl := List.length_eq_zero_iff.1 hb
    go_enter Try.func88, Try.ntmps88
    go_wp2_with fail
    go_ret2
    exact ⟨rfl, rfl⟩
  · have hne : ((l.length : Int) == 0) = false := by simp; rintro rfl; simp at hb
    go_enter Try.func88, Try.ntmps88
    go_wp2_with fail
    go_ret2
    exact ⟨rfl, rfl⟩

def rkE (L : List Nat) (l : List Int) : Ending := if L.length = l.length then .returned (.tuple #[.int .i64 (Hf.ksum L : Nat), .int .i64 0]) else .returned (.tuple #[.int .i64 0, .int .i64 1])
set_option maxHeartbeats 2000000 in
/-- of a list of which the first m numbers are right: all of them, or one that isn't follows -/
theorem rkraft_of (v : Value) (l : List Int) (L : List Nat) (w : World) (h : Ints w v l) (h1 : 1 ≤ l.length) (h2 : l.length ≤ 256) (hL : L.length ≤ l.length) (hp : Hid (∀ j (_ : j < L.length) (hj' : j < l.length), l[j] = ((L.getD j 0 : Nat) : Int))) (h3 : Hid (∀ n ∈ L, n ≤ 48))
    (he : Hid (∀ hj : L.length < l.length, l[L.length] < 0 ∨ 48 < l[L.length])) :
    Calls Try.prog 88 #[v] w fun e w' => e = rkE L l ∧ w' = w := by
  obtain ⟨a, c, rfl⟩ := h.slice
  have hne : ((l.length : Int) == 0) = false := by simp; rintro rfl; simp at h1
  go_enter Try.func88, Try.ntmps88
  go_wp2_with fail
  go_loop [4, 18] (fun s i => ∃ k : Nat, k ≤ L.length ∧ i = .int .i64 k ∧ s = .int .i64 (Hf.kto L k : Nat)) (fun _ i => l.length - (intOf i).toNat)
  case atStart => exact ⟨0, by omega, rfl, rfl⟩
  case round =>
    obtain ⟨k, hk, rfl, rfl⟩ := hrel
    have hkl := Hf.kto_le L k
    by_cases hlt : k < L.length
    · have hltl : k < l.length := by omega
      obtain ⟨bk, o, rfl, _, hbk, c0⟩ := h.get k hltl
      rw [hp.out k hlt hltl] at c0
      have hn := Hf.getD_le h3.out k
      have HS : Hid (Hf.kto L (k + 1) = Hf.kto L k + if 0 < L.getD k 0 then 2 ^ (48 - L.getD k 0) else 0) := Hf.kto_succ L k
      generalize L.getD k 0 = n at *
      generalize Hf.kto L k = S at *
      clear h
      go_wp2_with fail
      go_loop [7, 30] (fun s i => ∃ q : Nat, q ≤ 48 - n ∧ i = .int .i64 q ∧ s = .int .i64 (2 ^ q : Nat)) (fun _ i => 48 - n - (intOf i).toNat)
      case atStart => exact ⟨0, by omega, rfl, rfl⟩
      case round =>
        obtain ⟨q, hq, rfl, rfl⟩ := hrel
        by_cases hql : q < 48 - n
        · have hqb : 2 ^ q ≤ 281474976710656 := two_pow_le (by omega)
          have HQ : Hid (2 ^ (q + 1) = 2 ^ q * 2) := Nat.pow_succ ..
          have hqi : (q : Int) < 48 - (n : Int) := by omega
          generalize 2 ^ q = T at *
          go_wp2_with fail
          go_round
          case rel => exact ⟨q + 1, by omega, by go_num, by rw [HQ.out]; go_num⟩
          case measure => simp only [intOf]; omega
        · obtain rfl : q = 48 - n := by omega
          have hqb : 2 ^ (48 - n) ≤ 281474976710656 := two_pow_le (by omega)
          have hqi : ¬ ((48 - n : Nat) : Int) < 48 - (n : Int) := by omega
          by_cases hn0 : 0 < n
          · have HP : Hid (Hf.kto L (k + 1) = S + 2 ^ (48 - n)) := by rw [HS.out, if_pos hn0]; rfl
            generalize 2 ^ (48 - n) = p at *
            clear HS
            go_wp2_with fail
            go_round
            case rel => exact ⟨k + 1, by omega, by go_num, by rw [HP.out]; go_num⟩
            case measure => simp only [intOf]; omega
          · have HP : Hid (Hf.kto L (k + 1) = S) := by rw [HS.out, if_neg hn0]; rfl
            generalize 2 ^ (48 - n) = p at *
            clear HS
            go_wp2_with fail
            go_round
            case rel => exact ⟨k + 1, by omega, by go_num, by rw [HP.out]⟩
            case measure => simp only [intOf]; omega
    · obtain rfl : k = L.length := by omega
      by_cases hll : L.length < l.length
      · obtain ⟨bk, o, rfl, _, hbk, c0⟩ := h.get L.length hll
        have hx := he.out hll
        have HE : Hid (rkE L l = .returned (.tuple #[.int .i64 0, .int .i64 1])) := if_neg (by omega)
        generalize l[L.length] = t at *
        generalize Hf.kto L L.length = S at *
        clear h
        rcases hx with hx | hx
        · go_wp2_with fail
          go_ret2
          exact ⟨by rw [HE.out]; rfl, rfl⟩
        · have hx0 : ¬ t < 0 := by omega
          go_wp2_with fail
          go_ret2
          exact ⟨by rw [HE.out]; rfl, rfl⟩
      · have HE : Hid (rkE L l = .returned (.tuple #[.int .i64 (Hf.kto L L.length : Nat), .int .i64 0])) := (if_pos (by omega)).trans (by rw [Hf.kto_all])
        generalize Hf.kto L L.length = S at *
        go_wp2_with fail
        go_ret2
        exact ⟨by rw [HE.out]; rfl, rfl⟩
namespace Hf
/-- the right numbers at a list's beginning, and what stands behind them -/
theorem front (l : List Int) : ∃ L : List Nat, L.length ≤ l.length ∧ (∀ j (_ : j < L.length) (hj' : j < l.length), l[j] = ((L.getD j 0 : Nat) : Int)) ∧ (∀ n ∈ L, n ≤ 48) ∧ ∀ hj : L.length < l.length, l[L.length] < 0 ∨ 48 < l[L.length] := by
  induction l with
  | nil => exact ⟨[], Nat.le_refl _, fun j hj => by simp at hj, fun n hn => by simp at hn, fun hj => by simp at hj⟩
  | cons x l ih =>
    obtain ⟨L, h1, h2, h3, h4⟩ := ih
    by_cases hx : x < 0 ∨ 48 < x
    · exact ⟨[], Nat.zero_le _, fun j hj => by simp at hj, fun n hn => by simp at hn, fun _ => hx⟩
    · refine ⟨x.toNat :: L, by simpa using h1, fun j hj hj' => ?_, fun n hn => ?_, fun hj => ?_⟩
      · cases j with
        | zero => simp; omega
        | succ j => simpa using h2 j (by simpa using hj) (by simpa using hj')
      · rcases List.mem_cons.1 hn with rfl | hn
        · omega
        · exact h3 n hn
      · simpa using h4 (by simpa using hj)
theorem sgn_front {l : List Int} {L : List Nat} (hL : L.length < l.length) (h : l[L.length] < 0 ∨ 48 < l[L.length]) : sgn 48 l = false := sgn_one _ hL h
theorem up_front {L M : List Nat} (hL : L.length = (up M).length) (h : ∀ j (_ : j < L.length) (hj' : j < (up M).length), (up M)[j] = ((L.getD j 0 : Nat) : Int)) : L = M := by
  have hl : L.length = M.length := by rw [hL, up_length]
  refine List.ext_getElem hl fun j h1 h2 => ?_
  have := h j h1 (by rw [up_length]; exact h2)
  rw [up_get] at this
  have : M.getD j 0 = L.getD j 0 := by omega
  rw [List.getD_eq_getElem?_getD, List.getD_eq_getElem?_getD, List.getElem?_eq_getElem h1, List.getElem?_eq_getElem h2] at this
  exact this.symm
end Hf

theorem rkraft_any (v : Value) (L : List Nat) (w : World) (h : Ints w v (Hf.up L)) (h1 : 1 ≤ L.length) (h2 : L.length ≤ 256) (h3 : ∀ n ∈ L, n ≤ 48) :
    Calls Try.prog 88 #[v] w fun e w' => e = .returned (.tuple #[.int .i64 (Hf.ksum L : Nat), .int .i64 0]) ∧ w' = w := by
  have := rkraft_of v (Hf.up L) L w h (by rw [Hf.up_length]; exact h1) (by rw [Hf.up_length]; exact h2) (by rw [Hf.up_length]; exact Nat.le_refl _) (fun j hj hj' => Hf.up_get L j hj') h3 (fun hj => by rw [Hf.up_length] at hj; omega)
  rw [show rkE L (Hf.up L) = _ from if_pos (Hf.up_length L).symm] at this
  exact this
theorem rkraft_bad (v : Value) (l : List Int) (w : World) (h : Ints w v l) (hl : l.length ≤ 140737488351232) (hb : Hf.sgn 48 l = false) :
    Calls Try.prog 88 #[v] w fun e w' => e = .returned (.tuple #[.int .i64 0, .int .i64 1]) ∧ w' = w := by
  by_cases hn : l.length = 0 ∨ 256 < l.length
  · exact rkraft_short v l w h hl hn
  · obtain ⟨L, e1, e2, e3, e4⟩ := Hf.front l
    have := rkraft_of v l L w h (by omega) (by omega) e1 e2 e3 e4
    rw [show rkE L l = _ from if_neg fun e => ?_] at this
    · exact this
    · refine absurd hb (Bool.eq_false_iff.1 · (Hf.sgn_all (by omega) (by omega) fun j hj => ?_))
      have hj' : j < L.length := by omega
      rw [e2 j hj' hj]
      have := Hf.getD_le e3 j
      omega
end Go.Proofs.Ytkhejelmjkpgfaa

namespace Go.Proofs.Ytkhejelmjkpgfaa
open Go.RowKit
set_option maxRecDepth 4000

set_option maxHeartbeats 1000000 in
theorem rcodes_bad (v : Value) (l : List Int) (w : World) (h : Ints w v l) (hl : l.length ≤ 140737488351232) (hb : Hf.sgn 48 l = false) :
    Calls Try.prog 55 #[v] w fun e w' => e = .returned (.tuple #[.slice none 0 0, .int .i64 1]) ∧ w' = w := by
  have hs := rkraft_bad v l w h hl hb
  clear hb
  go_enter Try.func55, Try.ntmps55
  go_wp2_with fail
  refine hs.mono ?_
  rintro e w' ⟨rfl, rfl⟩
  go_wp2_with fail
  go_ret2
  exact ⟨rfl, rfl⟩

set_option maxHeartbeats 1000000 in
theorem rcodes_form (v : Value) (L : List Nat) (w : World) (h : Ints w v (Hf.up L)) (h1 : 1 ≤ L.length) (h2 : L.length ≤ 256) (h3 : ∀ n ∈ L, n ≤ 48) (hk : 281474976710656 < Hf.ksum L) :
    Calls Try.prog 55 #[v] w fun e w' => e = .returned (.tuple #[.slice none 0 0, .int .i64 4]) ∧ w' = w := by
  have hs := rkraft_any v L w h h1 h2 h3
  have hb := Hf.kto_le L L.length
  rw [Hf.kto_all] at hb
  generalize Hf.ksum L = K at *
  clear h h3
  go_enter Try.func55, Try.ntmps55
  go_wp2_with fail
  refine hs.mono ?_
  rintro e w' ⟨rfl, rfl⟩
  go_wp2_with fail
  go_ret2
  exact ⟨rfl, rfl⟩

theorem Hf.ahead_is {L : List Nat} {i k : Nat} {n m : Nat} (hn : L.getD i 0 = n) (hm : L.getD k 0 = m) : Hf.ahead L i k = true ↔ 0 < m ∧ (m < n ∨ (m = n ∧ k < i)) := by
  unfold Hf.ahead
  rw [hn, hm]
  simp
set_option maxHeartbeats 4000000 in
theorem rcodes_any (v : Value) (L : List Nat) (w : World) (h : Ints w v (Hf.up L)) (h1 : 1 ≤ L.length) (h2 : L.length ≤ 256) (h3 : ∀ n ∈ L, n ≤ 48) (hk : Hf.ksum L ≤ 281474976710656) :
    Calls Try.prog 55 #[v] w fun e w' => ∃ v', e = .returned (.tuple #[v', .int .i64 0]) ∧ w'.ownsRow w.heap.size 3 1 v' L.length ((Hf.codes L).map Iv) ∧ Below w.heap.size w w' := by
  have hs := rkraft_any v L w h h1 h2 h3
  obtain ⟨i0, hi, hz0, hz1, hz2⟩ := info_parts info_int
  obtain ⟨a, c, rfl⟩ := h.slice
  rw [Hf.up_length] at h hs ⊢
  have HB : Hid (∀ i k, k ≤ L.length → Hf.cto L i k ≤ 281474976710656) := fun i k hb => Hf.cto_le hb h3 hk
  have H3 : Hid (∀ n ∈ L, n ≤ 48) := h3
  generalize Hf.ksum L = K at *
  clear h3
  go_enter Try.func55, Try.ntmps55
  go_wp2_with fail
  refine hs.mono ?_
  rintro e w' ⟨rfl, rfl⟩
  clear hs
  go_wp2_with (at_make; refine wpList_make_full _ rfl (.tmp 22) (.tmp 22) 82 rfl w'.heap.size 3 i0 (.int .i64 0) 1 Try.underlying82 hi hz0 hz1 .i64 .i64 _ _ L.length rfl rfl rfl rfl (by rw [hz2]; omega) (by unfold maxLen; omega) (Nat.le_refl _) ?_; intro w1 hown hgrow)
  have hown1 := made_zeros hown
  rw [← Hf.part_start] at hown1
  have HB1 : Hid (Below w'.heap.size w' w1) := (Below.refl _ _).grown hgrow (Nat.le_refl _) (fun k hk => by cases hk)
  clear hown hgrow
  go_wp2_with fail
  go_loopw [26] (fun x wr => ∃ i : Nat, i ≤ L.length ∧ x = .int .i64 i ∧ wr.ownsRow w'.heap.size 3 1 (.slice (some ⟨w'.heap.size, 0, none⟩) L.length L.length) L.length ((Hf.part L i 0).map Iv) ∧ Hid (Below w'.heap.size w' wr)) (fun x _ => L.length - (intOf x).toNat)
  case atStart => exact ⟨0, by omega, rfl, hown1, HB1⟩
  case round =>
    obtain ⟨i, hil, rfl, hown, hbel⟩ := hrel
    by_cases hlt : i < L.length
    · obtain ⟨bk, o, rfl, hbk, c0⟩ := (h.below (Nat.le_refl _) hbel.out).getN i hlt
      have hn := Hf.getD_le H3.out i
      obtain ⟨n, HN0⟩ : ∃ n, L.getD i 0 = n := ⟨_, rfl⟩
      rw [HN0] at c0 hn
      have HN : Hid (L.getD i 0 = n) := HN0
      clear HN0
      go_wp2_with fail
      clear c0
      go_loopw [33] (fun x wr => ∃ k : Nat, k ≤ L.length ∧ x = .int .i64 k ∧ wr.ownsRow w'.heap.size 3 1 (.slice (some ⟨w'.heap.size, 0, none⟩) L.length L.length) L.length ((Hf.part L i k).map Iv) ∧ Hid (Below w'.heap.size w' wr)) (fun x _ => L.length - (intOf x).toNat)
      case atStart => exact ⟨0, by omega, rfl, hown, hbel⟩
      case round =>
        obtain ⟨k, hkl, rfl, hown, hbel⟩ := hrel
        by_cases hlt2 : k < L.length
        · have hpl : i < (Hf.part L i k).length := by rw [Hf.part_length]; exact hlt
          obtain ⟨bk', o', ha, hbk', c0⟩ := (h.below (Nat.le_refl _) hbel.out).getN k hlt2
          obtain ⟨rfl, rfl⟩ : bk = bk' ∧ o = o' := by simpa using ha
          clear ha
          have hm := Hf.getD_le H3.out k
          obtain ⟨m, HM0⟩ : ∃ m, L.getD k 0 = m := ⟨_, rfl⟩
          rw [HM0] at c0 hm
          have HA := Hf.ahead_is HN.out HM0
          have HM : Hid (L.getD k 0 = m) := HM0
          clear HM0
          by_cases hA : 0 < m ∧ (m < n ∨ (m = n ∧ k < i))
          · obtain ⟨d, hd⟩ : ∃ d, n - m = d := ⟨_, rfl⟩
            have HG : Hid (Hf.part L i (k + 1) = (Hf.part L i k).set i ((Hf.cto L i k : Nat) + (2 ^ d : Nat))) := by
              have := Hf.part_hit (HA.2 hA)
              rw [HN.out, HM.out, hd] at this
              exact this
            have x1 := own_at hown i hpl
            have x1' : (Hf.part L i k)[i] = (Hf.cto L i k : Int) := by
              have := Hf.part_get (k := k) hlt
              rw [List.getElem?_eq_getElem hpl] at this
              simpa using this
            rw [x1'] at x1
            have hC := HB.out i k hkl
            have x2 := hown.frozenAt i
            have hd48 : d ≤ 48 := by omega
            have hnm : (n : Int) - (m : Int) = (d : Int) := by omega
            have HO := own_store hown i ((Hf.cto L i k : Nat) + (2 ^ d : Nat))
            rw [← HG.out] at HO
            have hm0 : 0 < m := hA.1
            have hn0 : 0 < n := by omega
            have hcase : (m < n) ∨ (¬ m < n ∧ ((m : Int) == (n : Int)) = true ∧ k < i) := by
              rcases hA.2 with h | ⟨h1, h2⟩
              · exact .inl h
              · exact .inr ⟨by omega, by simp [h1], h2⟩
            clear HG HA x1' hown hA hd
            generalize Hf.cto L i k = C at *
            have hp2 : (2 : Int) ^ d = ((2 ^ d : Nat) : Int) := by simp
            have hpb : 2 ^ d ≤ 281474976710656 := two_pow_le hd48
            generalize 2 ^ d = P at *
            have HO2 : Hid ((wr.setCell ⟨w'.heap.size, i, none⟩ (.int .i64 ((C : Int) + (P : Int)))).drew.ownsRow w'.heap.size 3 1 (.slice (some ⟨w'.heap.size, 0, none⟩) L.length L.length) L.length ((Hf.part L i (k + 1)).map Iv)) := HO.drew
            have HB2 : Hid (Below w'.heap.size w' (wr.setCell ⟨w'.heap.size, i, none⟩ (.int .i64 ((C : Int) + (P : Int)))).drew) := (hbel.out.setCell (Nat.le_refl _) _).drew
            clear HO
            rcases hcase with hmn | ⟨hmn, heq, hki⟩
            all_goals
              go_wp2_with fail
              go_region
              go_wp2_with fail
              go_roundw
              case rel => exact ⟨k + 1, by omega, by go_num, HO2.out, HB2⟩
              case measure => simp only [intOf]; omega
          · have HG : Hid (Hf.part L i (k + 1) = Hf.part L i k) := Hf.part_miss (Bool.eq_false_iff.2 fun h => hA (HA.1 h))
            have hcase : n = 0 ∨ (0 < n ∧ m = 0) ∨ (0 < n ∧ 0 < m ∧ n < m) ∨ (0 < n ∧ 0 < m ∧ ¬ m < n ∧ ((m : Int) == (n : Int)) = true ∧ ¬ k < i) := by
              by_cases e : m = n
              · subst e
                by_cases e0 : m = 0
                · exact .inl e0
                · exact .inr (.inr (.inr ⟨by omega, by omega, by omega, by simp, by omega⟩))
              · omega
            clear HA hA
            rcases hcase with rfl | ⟨hn0, rfl⟩ | ⟨hn0, hm0, hnm⟩ | ⟨hn0, hm0, hnm, heq, hki⟩
            rotate_left 2
            · have heq : ((m : Int) == (n : Int)) = false := by simp; omega
              have hmn : ¬ m < n := by omega
              go_wp2_with fail
              go_roundw
              case rel => exact ⟨k + 1, by omega, by go_num, by rw [HG.out]; exact hown, hbel⟩
              case measure => simp only [intOf]; omega
            all_goals
              go_wp2_with fail
              go_roundw
              case rel => exact ⟨k + 1, by omega, by go_num, by rw [HG.out]; exact hown, hbel⟩
              case measure => simp only [intOf]; omega
        · obtain rfl : k = L.length := by omega
          rw [Hf.part_next] at hown
          go_wp2_with fail
          go_roundw
          case rel => exact ⟨i + 1, by omega, by go_num, hown, hbel⟩
          case measure => simp only [intOf]; omega
    · obtain rfl : i = L.length := by omega
      rw [Hf.part_end] at hown
      have HO : Hid (wr.ownsRow w'.heap.size 3 1 (.slice (some ⟨w'.heap.size, 0, none⟩) L.length L.length) L.length ((Hf.codes L).map Iv)) := hown
      clear hown
      go_wp2_with fail
      go_ret2
      exact ⟨_, rfl, HO.out, hbel.out⟩
end Go.Proofs.Ytkhejelmjkpgfaa

namespace Go.Proofs.Ytkhejelmjkpgfaa
open Go.RowKit
set_option maxRecDepth 4000

theorem number_step (s : ByteArray) (q : Nat) (hq : s.size = q + 1) (h8 : s.size ≤ 8) :
    IntKind.u64.wrap (256 * (Nm.val (s.data.toList.take q) : Int)) = 256 * (Nm.val (s.data.toList.take q) : Int) ∧
    256 * Nm.val (s.data.toList.take q) + (s[q]'(by omega)).toNat = Nm.val s.data.toList ∧ Nm.val s.data.toList < 18446744073709551616 := by
  have h1 := take_snoc s q (by omega)
  rw [List.take_of_length_le (by rw [← Lib.size_eq]; omega)] at h1
  have hlt := Nm.val_lt s.data.toList
  have hp : 256 ^ s.data.toList.length ≤ 256 ^ 8 := Nat.pow_le_pow_right (by omega) (by rw [← Lib.size_eq]; exact h8)
  have h2 : Nm.val s.data.toList = 256 * Nm.val (s.data.toList.take q) + (s[q]'(by omega)).toNat := by rw [← Nm.val_snoc, ← h1]
  exact ⟨wrap_u64 _ (by omega) (by omega), by omega, by omega⟩

set_option maxHeartbeats 400000 in
theorem number_any (k : Nat) : ∀ (s : ByteArray) (w : World), s.size ≤ k → k ≤ 8 →
    Calls Try.prog 51 #[.string s] w fun e w' => e = .returned (.int .u64 (Nm.val s.data.toList)) ∧ ∃ m, w' = w.drewN m := by
  induction k with
  | zero =>
    intro s w h0 _
    have hs : s.data.toList = [] := List.length_eq_zero_iff.1 (by rw [← Lib.size_eq]; omega)
    have hq : s.toList.isEmpty = true := by rw [Lib.toList_data, hs]; rfl
    have e : Nm.val s.data.toList = 0 := by rw [hs]; rfl
    rw [e]
    clear hs e
    go_enter Try.func51, Try.ntmps51
    go_wp2_with fail
    go_ret
    exact ⟨rfl, 0, rfl⟩
  | succ k ih =>
    intro s w h1 h8
    by_cases h0 : s.size = 0
    · exact ih s w (by omega) (by omega)
    · obtain ⟨q, hq1⟩ : ∃ q, s.size = q + 1 := ⟨s.size - 1, by omega⟩
      obtain ⟨e1, e2, e3⟩ := number_step s q hq1 (by omega)
      have hlt : q < s.size := by omega
      have hb := s[q].toNat_lt
      have hp : 0 < s.size := by omega
      have hw1 : IntKind.i64.wrap ((s.size : Int) - 1) = (q : Int) := by rw [IntKind.wrap_i64]; omega
      have hq : s.toList.isEmpty = false := by
        rw [Lib.toList_data]
        cases hl : s.data.toList with
        | nil => have := Lib.size_eq s; rw [hl, List.length_nil] at this; omega
        | cons => rfl
      have HE : Hid (256 * Nm.val (s.data.toList.take q) + s[q].toNat = Nm.val s.data.toList) := e2
      have HQ : Hid (s.size = q + 1) := hq1
      clear e2 hq1
      go_enter Try.func51, Try.ntmps51
      go_wp2_with fail
      go_quiet ((go_at_call 51; refine Calls.quiet_of (ih _ _ (by simp only [ByteArray.size_extract]; omega) (by omega))))
      go_wp2_with fail
      go_ret
      refine ⟨ret_int ?_, _, rfl⟩
      have := HE.out
      rw [wrap_u64 _ (by omega) (by omega)]
      omega
end Go.Proofs.Ytkhejelmjkpgfaa

namespace Go.Proofs
open Go.Shelf
def Try.lays99_ren : Go.Shelf.Ren := ⟨fun | 99 => 50 | 206 => 81 | n => n, fun | 9 => 9 | 4 => 4 | 3 => 3 | n => n, fun | n => n⟩
theorem Try.lays99 : Go.Proofs.Lays.n99 Try.prog Try.lays99_ren := {
  mixed := by kernel_rfl
  f99 := Try.func50.trans (congrArg some (by kernel_rfl))
  f206 := Try.func81.trans (congrArg some (by kernel_rfl))
  t3 := Try.underlying3
  a3 := Try.isAgg3
  z3 := Try.sizeOf3
  v3 := Try.zeroValue3
  t4 := Try.underlying4
  a4 := Try.isAgg4
  z4 := Try.sizeOf4
  v4 := Try.zeroValue4
  t9 := Try.underlying9
  a9 := Try.isAgg9
  z9 := Try.sizeOf9
  v9 := Try.zeroValue9 }
open Go.RowKit Go.Lib in
theorem Try.strings_HasPrefix (s p : ByteArray) (w : World) :
    Calls Try.prog 50 #[.string s, .string p] w fun e w' => e = .returned (.bool (Lib.hasPrefix s.data.toList p.data.toList)) ∧ w' = w := Any.strings_HasPrefix Try.lays99 s p w
end Go.Proofs

namespace Go.Proofs.Ytkhejelmjkpgfaa
open Go.RowKit
set_option maxRecDepth 4000

set_option maxHeartbeats 400000 in
theorem rput_any (n : Int) (w : World) (n0 : 0 ≤ n) (n1 : n ≤ 18446744073709551615) :
    Calls Try.prog 31 #[.int .u64 n] w fun e w' => e = .returned (.string ⟨(Nm.put n.toNat).toArray⟩) ∧ Below w.heap.size w w' := by
  have hl := Nm.dig_length_le n.toNat
  have hr1 := str_new ((Nm.dig n.toNat).length : Int) (by omega) (by omega)
  have hcat : ∀ W : World, (Op.stringOp .add ⟨#[UInt8.ofNat ((Nm.dig n.toNat).length : Int).toNat]⟩ ⟨(Nm.dig n.toNat).toArray⟩).run Try.prog W = .ok (.string ⟨(Nm.put n.toNat).toArray⟩) W := fun W =>
    run_string_add_lists W [UInt8.ofNat ((Nm.dig n.toNat).length : Int).toNat] _ (by simp) (by omega)
  rw [Int.toNat_natCast] at hcat
  simp only [Int.toNat_natCast] at hr1
  go_enter Try.func31, Try.ntmps31
  go_wp2_with fail
  refine (digits_any 8 n _ n0 (by omega) (by omega)).mono ?_
  rintro e w1 ⟨rfl, hb⟩
  rw [show Nm.digF 8 n.toNat = Nm.dig n.toNat from rfl]
  have hbs := hb.size
  go_wp2_with fail
  go_ret
  exact ⟨rfl, hb.alloc hbs _⟩

theorem pre_zero (l : List UInt8) (k : Nat) (h : k ≤ l.length) (z : UInt8) : Lib.hasPrefix (l.take k) [z] = decide (0 < k ∧ l.headD 0 = z) := by
  cases k with
  | zero => simp [Lib.hasPrefix]
  | succ k =>
    cases l with
    | nil => simp at h
    | cons b l =>
      have e : Lib.hasPrefix (List.take (k + 1) (b :: l)) [z] = (z == b) := by simp [Lib.hasPrefix, List.isPrefixOf]
      rw [e, Bool.eq_iff_iff, beq_iff_eq, decide_eq_true_eq]
      exact ⟨fun h => ⟨by omega, h.symm⟩, fun h => h.2.symm⟩
theorem mid_data (s : ByteArray) (k : Nat) : (s.extract 1 (1 + k)).data.toList = s.data.toList.tail.take k := by
  rw [Lib.extract_data, List.drop_one, Nat.add_sub_cancel_left]
theorem tail_length (s : ByteArray) : s.data.toList.tail.length = s.size - 1 := by rw [List.length_tail, ← Lib.size_eq]
theorem list_ne' (s : ByteArray) (h : 0 < s.size) : s.data.toList ≠ [] := by
  intro e; have := Lib.size_eq s; rw [e] at this; simp only [List.length_nil] at this; omega

set_option maxHeartbeats 400000 in
theorem rget_any (s : ByteArray) (w : World) (hs : s.size ≤ 9223372036854775807) :
    Calls Try.prog 36 #[.string s] w fun e w' =>
      e = .returned (.tuple #[.int .u64 (Nm.getN s.data.toList).1, .int .i64 (Nm.getN s.data.toList).2.1, .int .i64 (Nm.getN s.data.toList).2.2]) ∧ ∃ m, w' = w.drewN m := by
  by_cases h0 : s.size = 0
  · have hr : Nm.getN s.data.toList = (0, 0, 3) := by rw [Nm.getN, if_pos (List.length_eq_zero_iff.1 (by simpa using h0))]
    rw [hr]
    go_enter Try.func36, Try.ntmps36
    go_wp2_with fail
    go_ret3
    exact ⟨rfl, 0, rfl⟩
  · have hp : 0 < s.size := by omega
    have hne := list_ne' s hp
    have hb := s[0].toNat_lt
    have hh := head_byte s hp
    have hz : ((s.size : Int) == 0) = false := beq_eq_false_iff_ne.2 (by omega)
    have hg : Nm.getN s.data.toList = if (Nm.readN s.data.toList.tail s[0].toNat 0).2 = 0 then ((Nm.readN s.data.toList.tail s[0].toNat 0).1, 1 + s[0].toNat, (0 : Int)) else ((0 : Nat), (0 : Nat), (Nm.readN s.data.toList.tail s[0].toNat 0).2) := by
      rw [Nm.getN, if_neg hne]; simp only [hh]
    have htl := tail_length s
    rw [hg]
    clear hg hh hne h0
    generalize hc : s[0] = c at *
    by_cases h8 : 8 < c.toNat
    · have hr : Nm.readN s.data.toList.tail c.toNat 0 = (0, 4) := by rw [Nm.readN, if_pos h8]
      rw [hr, if_neg (by decide)]
      clear htl
      go_enter Try.func36, Try.ntmps36
      go_wp2_with fail
      go_ret3
      exact ⟨rfl, 0, rfl⟩
    by_cases hk : s.size < 1 + c.toNat
    · have hr : Nm.readN s.data.toList.tail c.toNat 0 = (0, 3) := by rw [Nm.readN, if_neg h8, if_pos (by omega)]
      rw [hr, if_neg (by decide)]
      clear htl
      go_enter Try.func36, Try.ntmps36
      go_wp2_with fail
      go_ret3
      exact ⟨rfl, 0, rfl⟩
    have hpre := pre_zero s.data.toList.tail c.toNat (by omega) 0
    rw [← mid_data] at hpre
    by_cases hd : 0 < c.toNat ∧ s.data.toList.tail.headD 0 = 0
    · have hr : Nm.readN s.data.toList.tail c.toNat 0 = (0, 4) := by rw [Nm.readN, if_neg h8, if_neg (by omega), if_pos (by simpa using hd)]
      rw [hr, if_neg (by decide)]
      rw [decide_eq_true hd] at hpre
      have HP : Hid (Lib.hasPrefix (s.extract 1 (1 + c.toNat)).data.toList [0] = true) := hpre
      clear htl hpre hd hr
      go_enter Try.func36, Try.ntmps36
      go_wp2_with fail
      refine (Try.strings_HasPrefix _ _ _).mono ?_
      rintro e w' ⟨rfl, rfl⟩
      rw [show ({ data := #[0] } : ByteArray).data.toList = [0] from rfl, HP.out]
      go_wp2_with fail
      go_ret3
      exact ⟨rfl, 0, rfl⟩
    · have hr : Nm.readN s.data.toList.tail c.toNat 0 = (Nm.val (s.data.toList.tail.take c.toNat), 0) := by
        rw [Nm.readN, if_neg h8, if_neg (by omega), if_neg (by simpa using hd), Nm.tn_zero]
      rw [hr, if_pos rfl]
      rw [decide_eq_false hd] at hpre
      have HP : Hid (Lib.hasPrefix (s.extract 1 (1 + c.toNat)).data.toList [0] = false) := hpre
      clear htl hpre hd hr
      go_enter Try.func36, Try.ntmps36
      go_wp2_with fail
      refine (Try.strings_HasPrefix _ _ _).mono ?_
      rintro e w' ⟨rfl, rfl⟩
      rw [show ({ data := #[0] } : ByteArray).data.toList = [0] from rfl, HP.out]
      go_wp2_with fail
      refine (number_any 8 _ _ (by simp only [ByteArray.size_extract]; omega) (by omega)).mono ?_
      rintro e w1 ⟨rfl, m, rfl⟩
      rw [mid_data]
      go_wp2_with fail
      go_ret3
      exact ⟨rfl, m, rfl⟩
end Go.Proofs.Ytkhejelmjkpgfaa
