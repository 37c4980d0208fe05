/-
  What Lengths of package huff answers.
-/
import Derived.Test.YtoohekdaihhflaaHpGroups
import Derived.Test.YtoohekdaihhflaaHpJoin
namespace Go.Proofs.Ytoohekdaihhflaa
open Go.RowKit

theorem take_form (base Hb : Nat) (v : Value) (l : List Hf.G) (w : World) (h : Heap w base Hb v l) (h0 : 0 < l.length) (hl : l.length ≤ 256) (ho : Hf.Ord l) :
    ∃ xw xl xs xa xm xc, Hf.nth l 0 = ⟨xw, xl, xs, .slice xa xm xc⟩ ∧
    Calls Try.prog 33 #[.pointer (some ⟨Hb, 0, none⟩)] w fun e w' => e = .returned (.agg #[.int .i64 (xw : Nat), .int .i64 (xl : Nat), .slice xa xm xc]) ∧ ∃ v' l', l.Perm (⟨xw, xl, xs, .slice xa xm xc⟩ :: l') ∧ Hf.Ord l' ∧ v'.ownBlock = v.ownBlock ∧ Heap w' base Hb v' l' ∧ Stays Hb v w w' := by
  obtain ⟨xa, xm, xc, e⟩ := own_slice (h.signs _ (Hf.nth_mem h0))
  have ex : Hf.nth l 0 = (⟨(Hf.nth l 0).wt, (Hf.nth l 0).low, (Hf.nth l 0).sg, .slice xa xm xc⟩ : Hf.G) := by rw [← e]
  refine ⟨_, _, _, xa, xm, xc, ex, ?_⟩
  have := take_any base Hb v l w h h0 hl ho
  rw [ex] at this
  exact this
/-- how many items a heap has -/
def itemsLen (W : World) (B : Nat) : Nat :=
  match W.cell? ⟨B, 1, none⟩ with
  | some (.slice _ n _) => n
  | _ => 0
theorem Heap.len {W : World} {base Hb : Nat} {v : Value} {l : List Hf.G} (h : Heap W base Hb v l) : itemsLen W Hb = l.length := by
  obtain ⟨a, c, rfl⟩ := h.slice
  unfold itemsLen
  rw [h.cells.2.1]
namespace Hf
theorem nlt_of {c a : G} (h : ltG c a = false) : nlt (ab c) (ab a) := by
  rw [ltG_not] at h
  unfold nlt ab
  dsimp only
  omega
theorem up_set (l : List Nat) (i x : Nat) : up (l.set i x) = (up l).set i (x : Int) := by
  unfold up
  rw [List.map_set]
theorem up_zero (n : Nat) : up (List.replicate n 0) = List.replicate n 0 := by simp [up]
theorem bump_few {out s : List Nat} {k : Nat} (hn : s.Nodup) (hs : ∀ i ∈ s, i < out.length) (h : ∀ i, out.getD i 0 ≤ 256) (i : Nat) : (bump out (s.take k)).getD i 0 ≤ 257 := by
  rw [bump_get (hn.sublist (List.take_sublist _ _)) (fun j hj => hs j (List.mem_of_mem_take hj))]
  have := h i
  split <;> omega
theorem bump_next {out s : List Nat} {k : Nat} (hk : k < s.length) : bump out (s.take (k + 1)) = (bump out (s.take k)).set (s.getD k 0) ((bump out (s.take k)).getD (s.getD k 0) 0 + 1) := by
  rw [List.take_succ_eq_append_getElem hk, bump_more]
  rw [List.getD_eq_getElem?_getD (l := s), List.getElem?_eq_getElem hk]
  rfl
end Hf
/-- a heap, the numbers that it has made so far, and the row that they lie in -/
structure Lst (F : List Nat) (w wr : World) (Lb B : Nat) (l : List Hf.G) (u : Value) (out : List Nat) : Prop where
  heap : Heap wr B B u l
  ord : Hf.Ord l
  inv : Hf.Inv F (l.map Hf.ab) out
  row : wr.ownsRow w.heap.size 3 1 (.slice (some ⟨Lb, 0, none⟩) F.length F.length) F.length ((Hf.up out).map Iv)
  bel : Below w.heap.size w wr

set_option maxHeartbeats 1000000 in
theorem lengths_bad (v : Value) (l : List Int) (w : World) (h : Ints w v l) (hl : l.length ≤ 140737488351232) (hb : Hf.sgn 1048576 l = false) :
    Calls Try.prog 9 #[v] w fun e w' => e = .returned (.tuple #[.slice none 0 0, .int .i64 1]) ∧ w' = w := by
  have hs := signs_any v l 1048576 w h hl
  rw [hb] at hs
  clear hb
  go_enter Try.func9, Try.ntmps9
  go_wp2_with fail
  refine hs.mono ?_
  rintro e w' ⟨rfl, rfl⟩
  go_wp2_with fail
  go_ret2
  exact ⟨rfl, rfl⟩

set_option maxHeartbeats 8000000 in
theorem lengths_any (v : Value) (F : List Nat) (w : World) (h : Ints w v (Hf.up F)) (h1 : 1 ≤ F.length) (h2 : F.length ≤ 256) (h3 : ∀ n ∈ F, n ≤ 1048576) :
    Calls Try.prog 9 #[v] w fun e w' => ∃ v' out, e = .returned (.tuple #[v', .int .i64 0]) ∧ Hf.HL F out ∧ w'.ownsRow w.heap.size 3 1 v' F.length ((Hf.up out).map Iv) ∧ Below w.heap.size w w' := by
  have hs := signs_any v (Hf.up F) 1048576 w h (by rw [Hf.up_length]; omega)
  rw [show Hf.sgn 1048576 (Hf.up F) = true from Hf.sgn_all (by rw [Hf.up_length]; exact h1) (by rw [Hf.up_length]; exact h2) fun j hj => by
    rw [Hf.up_get]; have := Hf.getD_le h3 j; omega] at hs
  obtain ⟨i0, hi, hz0, hz1, hz2⟩ := info_parts info_int
  obtain ⟨a, c, rfl⟩ := h.slice
  rw [Hf.up_length] at h hs ⊢
  have HST : Hid (Hf.Inv F (Hf.init F F.length) (List.replicate F.length 0)) := Hf.Inv.start h2 h3
  have hgr := fun W (hW : Below w.heap.size w W) => groups_any (.slice a F.length c) F W (h.below (Nat.le_refl _) hW) h2 h3
  have H3 : Hid (∀ n ∈ F, n ≤ 1048576) := h3
  clear h3
  go_enter Try.func9, Try.ntmps9
  go_wp2_with fail
  refine hs.mono ?_
  rintro e w' ⟨rfl, rfl⟩
  clear hs
  go_wp2_with (at_make; refine wpList_make_full _ rfl (.tmp 15) (.tmp 15) 22 rfl w'.heap.size 3 i0 (.int .i64 0) 1 Try.underlying22 hi hz0 hz1 .i64 .i64 _ _ F.length rfl rfl rfl rfl (by rw [hz2]; omega) (by unfold maxLen; omega) (Nat.le_refl _) ?_; intro w1 hown hgrow)
  have hown1 := made_zeros hown
  rw [← Hf.up_zero] at hown1
  have hB1 : Below w'.heap.size w' w1 := (Below.refl _ _).grown hgrow (Nat.le_refl _) (fun k hk => by cases hk)
  have hLb : w'.heap.size < w1.heap.size := by obtain ⟨cur, hc, _⟩ := own_block hown1 rfl; exact (Array.getElem?_eq_some_iff.1 hc).1
  have hg := hgr w1 hB1
  clear hown hgrow hgr
  go_wp2_with fail
  refine hg.mono ?_
  rintro e w2 ⟨rfl, u, l, hH, hO, hP, hB2⟩
  clear hg
  have HS : Hid (Lst F w' w2 w'.heap.size w1.heap.size l u (List.replicate F.length 0)) :=
    ⟨hH, hO, HST.out.perm hP.symm, row_below hown1 hB2, hB1.trans (hB2.mono (by omega))⟩
  have HPL : Hid ((l.map Hf.ab).Perm (Hf.init F F.length)) := hP
  have hsz := size_any _ _ _ _ _ hH
  have hll : l.length ≤ 256 := by have := HS.out.inv.few 0; rw [List.length_map] at this; omega
  clear hH hO hP hB2 hown1 hB1
  go_wp2_with fail
  refine hsz.mono ?_
  rintro e w3 ⟨rfl, rfl⟩
  clear hsz
  by_cases hone : l.length = 1
  · obtain ⟨xw, xl, xs, xa, xm, xc, hx, htk⟩ := take_form _ _ _ _ _ HS.out.heap (by omega) (by omega) HS.out.ord
    have heq : ((l.length : Int) == 1) = true := by simp; omega
    have hxl : xl < F.length := by
      have h0 : Hf.ab (Hf.nth l 0) ∈ l.map Hf.ab := List.mem_map_of_mem (Hf.nth_mem (by omega))
      rw [hx] at h0
      exact HS.out.inv.st.lt _ h0 _ (HS.out.inv.st.low _ h0)
    have HHL : Hid (Hf.HL F ((List.replicate F.length 0).set xl 1)) := by
      have hl1 : l = [Hf.nth l 0] := by
        obtain ⟨y, rfl⟩ := List.length_eq_one_iff.1 hone
        rfl
      have hp := HPL.out
      rw [hl1, hx] at hp
      have hp : Hf.init F F.length = [(xw, xl, xs)] := List.perm_singleton.1 hp.symm
      refine ⟨by simp, fun e => by rw [hp] at e; simp at e, fun x e => ?_, fun e => by rw [hp] at e; simp at e⟩
      rw [hp] at e
      have : x = (xw, xl, xs) := by simpa using e.symm
      rw [this]
    have hrow := HS.out.row
    have HRB : Hid (∀ W, Stays w1.heap.size u w3 W → W.ownsRow w'.heap.size 3 1 (.slice (some ⟨w'.heap.size, 0, none⟩) F.length F.length) F.length ((Hf.up (List.replicate F.length 0)).map Iv) ∧ Below w'.heap.size w' W) := fun W hW => by
      have hb := HS.out.heap.below hW
      refine ⟨own_kept hrow hW fun g hg => ?_, HS.out.bel.trans (hb.mono (by omega))⟩
      exact HS.out.heap.sign_apart hrow g hg
    clear hrow HS HST HPL hx
    go_wp2_with fail
    refine htk.mono ?_
    rintro e w4 ⟨rfl, u4, l4, _, _, _, _, k4⟩
    obtain ⟨r4, b4⟩ := HRB.out w4 k4
    have x1 := own_at r4 xl (by rw [Hf.up_length, List.length_replicate]; exact hxl)
    have x2 := r4.frozenAt xl
    have HO : Hid ((w4.setCell ⟨w'.heap.size, xl, none⟩ (.int .i64 1)).ownsRow w'.heap.size 3 1 (.slice (some ⟨w'.heap.size, 0, none⟩) F.length F.length) F.length ((Hf.up ((List.replicate F.length 0).set xl 1)).map Iv)) := by
      rw [Hf.up_set]; exact own_store r4 xl 1
    have HB : Hid (Below w'.heap.size w' (w4.setCell ⟨w'.heap.size, xl, none⟩ (.int .i64 1))) := b4.setCell (Nat.le_refl _) _
    generalize (Hf.up (List.replicate F.length 0))[xl]'(by rw [Hf.up_length, List.length_replicate]; exact hxl) = x at *
    have hfd : ∀ W : World, (Instr.field 54 (.agg #[.int .i64 (xw : Int), .int .i64 (xl : Int), .slice xa xm xc]) 1).run Try.prog W = .ok (.int .i64 (xl : Int)) W := fun _ => by kernel_rfl
    clear r4 b4 k4 htk HRB
    go_wp2_with fail
    go_ret2
    exact ⟨_, _, rfl, HHL.out, HO.out, HB.out⟩
  · obtain ⟨N0, hN0⟩ : ∃ N0, N0 = (Hf.init F F.length).length := ⟨_, rfl⟩
    have hlN : l.length = N0 := by rw [hN0, ← HPL.out.length_eq, List.length_map]
    have HN0 : Hid (N0 = (Hf.init F F.length).length) := hN0
    have HN1 : Hid (N0 ≠ 1) := by rw [← hlN]; exact hone
    have HST2 : Hid (∃ u l out, Lst F w' w3 w'.heap.size w1.heap.size l u out ∧ (N0 = 0 → out = List.replicate F.length 0 ∧ l.length = 0) ∧ (N0 ≠ 0 → 1 ≤ l.length)) := ⟨u, l, _, HS.out, fun e => ⟨rfl, by omega⟩, fun h => by omega⟩
    have hne : ((N0 : Int) == 1) = false := by simp; omega
    clear hN0
    go_wp2_with fail
    clear hlN HS HPL hll hone hne HST
    go_loopw [] (fun wr => Hid (∃ u l out, Lst F w' wr w'.heap.size w1.heap.size l u out ∧ (N0 = 0 → out = List.replicate F.length 0 ∧ l.length = 0) ∧ (N0 ≠ 0 → 1 ≤ l.length))) (fun wr => itemsLen wr w1.heap.size)
    case atStart => exact HST2
    case round =>
      obtain ⟨u, l, out, hS, hz, hnz⟩ := hrel.out
      have hll : l.length ≤ 256 := by have := hS.inv.few 0; rw [List.length_map] at this; omega
      have HLN : Hid (itemsLen wr w1.heap.size = l.length) := hS.heap.len
      have hsz := size_any _ _ _ _ _ hS.heap
      have HS : Hid (Lst F w' wr w'.heap.size w1.heap.size l u out) := hS
      have HZ : Hid (N0 = 0 → out = List.replicate F.length 0 ∧ l.length = 0) := hz
      have HNZ : Hid (N0 ≠ 0 → 1 ≤ l.length) := hnz
      clear hS hz hnz hrel
      go_wp2_with fail
      refine hsz.mono ?_
      rintro e w4 ⟨rfl, rfl⟩
      clear hsz
      by_cases hlt : 1 < l.length
      · obtain ⟨xw, xl, xs, xa, xm, xc, hx, htk⟩ := take_form _ _ _ _ _ HS.out.heap (by omega) (by omega) HS.out.ord
        have HX : Hid (∀ c ∈ l, Hf.ltG c ⟨xw, xl, xs, .slice xa xm xc⟩ = false) := fun c hc => by rw [← hx]; exact HS.out.ord.first_mem c hc
        have HSX : Hid (w4.ownsRow w1.heap.size 3 1 (.slice xa xm xc) xs.length ((Hf.up xs).map Iv)) := by
          have := HS.out.heap.signs _ (Hf.nth_mem (show 0 < l.length by omega))
          rw [hx] at this
          exact this
        clear hx
        go_wp2_with fail
        refine htk.mono ?_
        rintro e w5 ⟨rfl, u5, l5, p5, o5, _, H5, K5⟩
        clear htk
        have hl5 : l.length = l5.length + 1 := by have := p5.length_eq; simpa using this
        have hsx5 : w5.ownsRow w1.heap.size 3 1 (.slice xa xm xc) xs.length ((Hf.up xs).map Iv) := own_kept HSX.out K5 (HS.out.heap.sign_apart HSX.out)
        have hrow5 : w5.ownsRow w'.heap.size 3 1 (.slice (some ⟨w'.heap.size, 0, none⟩) F.length F.length) F.length ((Hf.up out).map Iv) := own_kept HS.out.row K5 (HS.out.heap.sign_apart HS.out.row)
        have hbel5 : Below w'.heap.size w' w5 := HS.out.bel.trans ((HS.out.heap.below K5).mono (by omega))
        have hinv := HS.out.inv.perm (p5.map Hf.ab)
        have hA : ∀ c ∈ l5, Hf.nlt (Hf.ab c) (Hf.ab ⟨xw, xl, xs, .slice xa xm xc⟩) := fun c hc => Hf.nlt_of (HX.out c (p5.mem_iff.2 (List.mem_cons_of_mem _ hc)))
        obtain ⟨W6, hW6⟩ : ∃ W6, W6 = w5.alloc (.cells #[.int .i64 (xw : Int), .int .i64 (xl : Int), .slice xa xm xc] 54) := ⟨_, rfl⟩
        have hb56 : Below w5.heap.size w5 W6 := by rw [hW6]; exact (Below.refl _ _).alloc (Nat.le_refl _) _
        have H6 : Heap W6 w1.heap.size w1.heap.size u5 l5 := H5.keep hb56
        have X6 : Hid (GBox W6 w5.heap.size ⟨xw, xl, xs, .slice xa xm xc⟩) := by rw [hW6]; exact GBox.new w5 ⟨xw, xl, xs, .slice xa xm xc⟩
        have HSX6 : Hid (W6.ownsRow w1.heap.size 3 1 (.slice xa xm xc) xs.length ((Hf.up xs).map Iv)) := row_below hsx5 hb56
        have HR6 : Hid (W6.ownsRow w'.heap.size 3 1 (.slice (some ⟨w'.heap.size, 0, none⟩) F.length F.length) F.length ((Hf.up out).map Iv)) := row_below hrow5 hb56
        have HB6 : Hid (Below w'.heap.size w' W6) := hbel5.trans (hb56.mono hbel5.size)
        have HI : Hid (Hf.Inv F (Hf.ab ⟨xw, xl, xs, .slice xa xm xc⟩ :: l5.map Hf.ab) out) := hinv
        have HA : Hid (∀ c ∈ l5, Hf.nlt (Hf.ab c) (Hf.ab ⟨xw, xl, xs, .slice xa xm xc⟩)) := hA
        obtain ⟨yw, yl, ys, ya, ym, yc, hy, htk⟩ := take_form _ _ _ _ _ H6 (by omega) (by omega) o5
        have HY : Hid (∀ c ∈ l5, Hf.ltG c ⟨yw, yl, ys, .slice ya ym yc⟩ = false) := fun c hc => by rw [← hy]; exact o5.first_mem c hc
        have HSY : Hid (W6.ownsRow w1.heap.size 3 1 (.slice ya ym yc) ys.length ((Hf.up ys).map Iv)) := by
          have := H6.signs _ (Hf.nth_mem (show 0 < l5.length by omega))
          rw [hy] at this
          exact this
        have HH6 : Hid (Heap W6 w1.heap.size w1.heap.size u5 l5) := H6
        have HL5 : Hid (l.length = l5.length + 1) := hl5
        have HNE : Hid (w5.heap.size ≠ w1.heap.size ∧ u5.ownBlock ≠ some w5.heap.size) := by
          refine ⟨fun e => ?_, fun e => ?_⟩
          · have := H5.lt; omega
          · obtain ⟨cur, hc, _⟩ := own_block H5.row e
            have := (Array.getElem?_eq_some_iff.1 hc).1
            omega
        clear hy p5 o5 H5 K5 hl5 hsx5 hrow5 hbel5 hinv hA hb56 H6 HX HSX
        go_wp2_with fail
        rw [← hW6]
        refine htk.mono ?_
        rintro e w7 ⟨rfl, u7, l7, p7, o7, _, H7, K7⟩
        clear htk hW6
        have hw5 : w5.heap.size < W6.heap.size := X6.out.lt
        have X7 : GBox w7 w5.heap.size ⟨xw, xl, xs, .slice xa xm xc⟩ := X6.out.kept K7 HNE.out
        have hl7 : l5.length = l7.length + 1 := by have := p7.length_eq; simpa using this
        have hsx7 : w7.ownsRow w1.heap.size 3 1 (.slice xa xm xc) xs.length ((Hf.up xs).map Iv) := own_kept HSX6.out K7 (HH6.out.sign_apart HSX6.out)
        have hsy7 : w7.ownsRow w1.heap.size 3 1 (.slice ya ym yc) ys.length ((Hf.up ys).map Iv) := own_kept HSY.out K7 (HH6.out.sign_apart HSY.out)
        have hrow7 : w7.ownsRow w'.heap.size 3 1 (.slice (some ⟨w'.heap.size, 0, none⟩) F.length F.length) F.length ((Hf.up out).map Iv) := own_kept HR6.out K7 (HH6.out.sign_apart HR6.out)
        have hbel7 : Below w'.heap.size w' w7 := HB6.out.trans ((HH6.out.below K7).mono (by omega))
        have hinv : Hf.Inv F (Hf.ab ⟨xw, xl, xs, .slice xa xm xc⟩ :: Hf.ab ⟨yw, yl, ys, .slice ya ym yc⟩ :: l7.map Hf.ab) out := HI.out.perm ((p7.map Hf.ab).cons _)
        have hA : ∀ c ∈ Hf.ab ⟨yw, yl, ys, .slice ya ym yc⟩ :: l7.map Hf.ab, Hf.nlt c (Hf.ab ⟨xw, xl, xs, .slice xa xm xc⟩) := fun c hc => by
          have hc : c ∈ (⟨yw, yl, ys, .slice ya ym yc⟩ :: l7).map Hf.ab := hc
          obtain ⟨g, hg, rfl⟩ := List.mem_map.1 hc
          exact HA.out g (p7.mem_iff.2 hg)
        have hBq : ∀ c ∈ l7.map Hf.ab, Hf.nlt c (Hf.ab ⟨yw, yl, ys, .slice ya ym yc⟩) := fun c hc => by
          obtain ⟨g, hg, rfl⟩ := List.mem_map.1 hc
          exact Hf.nlt_of (HY.out g (p7.mem_iff.2 (List.mem_cons_of_mem _ hg)))
        have hstep := hinv.step (s := xs ++ ys) hA hBq (List.Perm.refl _)
        have hx1 : 1 ≤ xs.length := List.length_pos_of_mem (hinv.st.low _ List.mem_cons_self)
        have hy1 : 1 ≤ ys.length := List.length_pos_of_mem (hinv.st.low _ (List.mem_cons_of_mem _ List.mem_cons_self))
        have hxy : xs.length + ys.length ≤ 256 := by
          have := hinv.st.count
          simp only [List.flatMap_cons, List.length_append, Hf.ab] at this
          omega
        have hwt : xw + yw ≤ 1000000000 := by
          have := hinv.st.wt
          simp only [List.map_cons, List.sum_cons, Hf.ab] at this
          omega
        obtain ⟨W8, hW8⟩ : ∃ W8, W8 = w7.alloc (.cells #[.int .i64 (yw : Int), .int .i64 (yl : Int), .slice ya ym yc] 54) := ⟨_, rfl⟩
        have hb78 : Below w7.heap.size w7 W8 := by rw [hW8]; exact (Below.refl _ _).alloc (Nat.le_refl _) _
        have X8 := X7.below hb78 X7.lt
        have Y8 : GBox W8 w7.heap.size ⟨yw, yl, ys, .slice ya ym yc⟩ := by rw [hW8]; exact GBox.new w7 ⟨yw, yl, ys, .slice ya ym yc⟩
        have hj := join_any w1.heap.size ⟨xw, xl, xs, .slice xa xm xc⟩ ⟨yw, yl, ys, .slice ya ym yc⟩ W8 (row_below hsx7 hb78) (row_below hsy7 hb78) hx1 hy1 hxy hwt
        have H8 : Hid (Heap W8 w1.heap.size w1.heap.size u7 l7) := H7.keep hb78
        have HR8 : Hid (W8.ownsRow w'.heap.size 3 1 (.slice (some ⟨w'.heap.size, 0, none⟩) F.length F.length) F.length ((Hf.up out).map Iv)) := row_below hrow7 hb78
        have HB8 : Hid (Below w'.heap.size w' W8) := hbel7.trans (hb78.mono hbel7.size)
        have HO7 : Hid (Hf.Ord l7) := o7
        have HL7 : Hid (l5.length = l7.length + 1) := hl7
        have HSTEP : Hid (Hf.Inv F ((xw + yw, min xl yl, xs ++ ys) :: l7.map Hf.ab) (Hf.bump out (xs ++ ys))) := hstep
        have HST7 : Hid (Hf.St F.length ((xw + yw, min xl yl, xs ++ ys) :: l7.map Hf.ab)) := hstep.st
        have HFEW : Hid (∀ i, out.getD i 0 ≤ 256) := fun i => by have := hinv.few i; omega
        have HLEN : Hid (out.length = F.length) := hinv.len
        obtain ⟨S, hS⟩ : ∃ S, xs ++ ys = S := ⟨_, rfl⟩
        obtain ⟨jw, hjw⟩ : ∃ jw, xw + yw = jw := ⟨_, rfl⟩
        obtain ⟨jl, hjl⟩ : ∃ jl, min xl yl = jl := ⟨_, rfl⟩
        unfold Hf.gjoin gV at hj
        dsimp only at hj
        rw [hS, hjw, hjl] at hj HSTEP HST7
        have HSL : Hid (S.length ≤ 256 ∧ 1 ≤ S.length) := by rw [← hS, List.length_append]; exact ⟨hxy, by omega⟩
        obtain ⟨a0, a1, a2, _, _, _, h57⟩ := X7
        dsimp only at a0 a1 a2
        rw [hW8] at hj
        clear p7 o7 H7 K7 hl7 hsx7 hsy7 hrow7 hbel7 hinv hA hBq hstep hx1 hy1 hxy hwt hb78 X8 Y8 hS hjw hjl X6 HSX6 HR6 HB6 HI HA HY HSY HH6 HNE
        go_wp2_with fail
        refine hj.mono ?_
        rw [← hW8]
        rintro e w9 ⟨v9, rfl, o9, hb9⟩
        obtain ⟨va, vm, vc, rfl⟩ := own_slice o9
        clear hj hW8 a0 a1 a2 h57
        have hw8 := HB8.out.size
        have H9 := H8.out.keep hb9
        have hr9 := row_below HR8.out hb9
        have hbl9 : Below w'.heap.size w' w9 := HB8.out.trans (hb9.mono hw8)
        obtain ⟨W10, hW10⟩ : ∃ W10, W10 = w9.alloc (.cells #[.int .i64 (jw : Int), .int .i64 (jl : Int), .slice va vm vc] 54) := ⟨_, rfl⟩
        have hbA : Below w9.heap.size w9 W10 := by rw [hW10]; exact (Below.refl _ _).alloc (Nat.le_refl _) _
        have J10 : GBox W10 w9.heap.size ⟨jw, jl, S, .slice va vm vc⟩ := by rw [hW10]; exact GBox.new w9 ⟨jw, jl, S, .slice va vm vc⟩
        have H10 : Hid (Heap W10 w1.heap.size w1.heap.size u7 l7) := H9.keep hbA
        have HR10 : Hid (W10.ownsRow w'.heap.size 3 1 (.slice (some ⟨w'.heap.size, 0, none⟩) F.length F.length) F.length ((Hf.up out).map Iv)) := row_below hr9 hbA
        have HB10 : Hid (Below w'.heap.size w' W10) := hbl9.trans (hbA.mono hbl9.size)
        have hwl : w1.heap.size ≤ W8.heap.size := by have := H8.out.lt; omega
        have HV10 : Hid (W10.ownsRow w1.heap.size 3 1 (.slice va vm vc) S.length ((Hf.up S).map Iv)) := row_lower (row_below o9 hbA) hwl
        have HJ10 : Hid (GBox W10 w9.heap.size ⟨jw, jl, S, .slice va vm vc⟩) := J10
        have hw9 : w'.heap.size < w9.heap.size := by have := hb9.size; omega
        obtain ⟨vg, rfl, hvm⟩ : ∃ vg, va = some ⟨vg, 0, none⟩ ∧ vm = S.length := by
          rcases o9.2 with ⟨e, h0⟩ | ⟨g, cap, cur, e, _⟩
          · have := HSL.out; omega
          · simp at e
            exact ⟨g, e.1, e.2.1⟩
        subst hvm
        clear J10 H9 hr9 hbl9 hbA o9 hb9 H8 HR8 HB8 hwl
        go_wp2_with fail
        rw [← hW10]
        clear hW10
        have HSN : Hid (S.Nodup) := by
          have := HST7.out.nodup
          rw [List.flatMap_cons, List.nodup_append] at this
          exact this.1
        have HSB : Hid (∀ i ∈ S, i < F.length) := fun i hi => HST7.out.lt _ List.mem_cons_self i hi
        go_loopw [41] (fun x wr => ∃ k : Nat, k ≤ S.length ∧ x = .int .i64 k ∧ Hid (Kept (fun q => q ≠ w'.heap.size) W10 wr) ∧ wr.ownsRow w'.heap.size 3 1 (.slice (some ⟨w'.heap.size, 0, none⟩) F.length F.length) F.length ((Hf.up (Hf.bump out (S.take k))).map Iv)) (fun x _ => S.length - (intOf x).toNat)
        case atStart => exact ⟨0, by omega, rfl, Kept.refl _ _, HR10.out⟩
        case round =>
          obtain ⟨k, hk, rfl, hkp, hrow⟩ := hrel
          have hS256 := HSL.out.1
          by_cases hkl : k < S.length
          · have hvr := own_kept HV10.out hkp.out (fun g hg => by obtain ⟨_, _, hb⟩ := own_block HV10.out hg; omega)
            have hc0 := own_at hvr k (by rw [Hf.up_length]; exact hkl)
            rw [Hf.up_get] at hc0
            have hsk : S.getD k 0 < F.length := HSB.out _ (by rw [List.getD_eq_getElem?_getD, List.getElem?_eq_getElem hkl]; exact List.getElem_mem hkl)
            have HN : Hid (Hf.bump out (S.take (k + 1)) = (Hf.bump out (S.take k)).set (S.getD k 0) ((Hf.bump out (S.take k)).getD (S.getD k 0) 0 + 1)) := Hf.bump_next hkl
            have hbl : (Hf.bump out (S.take k)).length = F.length := by rw [Hf.bump_length]; exact HLEN.out
            have hfew := Hf.bump_few (k := k) HSN.out (fun i hi => by rw [HLEN.out]; exact HSB.out i hi) HFEW.out (S.getD k 0)
            generalize S.getD k 0 = sk at *
            have hc1 := own_at hrow sk (by rw [Hf.up_length, hbl]; exact hsk)
            rw [Hf.up_get] at hc1
            have hfz := hrow.frozenAt sk
            have HO := own_store hrow sk (((Hf.bump out (S.take k)).getD sk 0 + 1 : Nat) : Int)
            rw [← Hf.up_set, ← HN.out] at HO
            generalize (Hf.bump out (S.take k)).getD sk 0 = X at *
            have HO' : Hid ((wr.setCell ⟨w'.heap.size, sk, none⟩ (.int .i64 ((X : Int) + 1))).ownsRow w'.heap.size 3 1 (.slice (some ⟨w'.heap.size, 0, none⟩) F.length F.length) F.length ((Hf.up (Hf.bump out (S.take (k + 1)))).map Iv)) := HO
            have HK' : Hid (Kept (fun q => q ≠ w'.heap.size) W10 (wr.setCell ⟨w'.heap.size, sk, none⟩ (.int .i64 ((X : Int) + 1)))) := hkp.out.setCell (by simp) _
            clear HO hrow hkp hvr HN hbl
            go_wp2_with fail
            go_roundw
            case rel => exact ⟨k + 1, by omega, by go_num, HK', HO'.out⟩
            case measure => simp only [intOf]; omega
          · obtain rfl : k = S.length := by omega
            rw [List.take_length] at hrow
            have hH := H10.out.kept hkp.out (fun q hq _ => by omega)
            have hV := own_kept HV10.out hkp.out (fun g hg => by obtain ⟨_, _, hb⟩ := own_block HV10.out hg; omega)
            have hJ := HJ10.out.kept hkp.out (by omega)
            have hBw : Below w'.heap.size w' wr := HB10.out.trans (hkp.out.below HB10.out.size fun q hq => by omega)
            have hl7 : l7.length < 256 := by have := HL5.out; have := HL7.out; omega
            have hput := put_any w1.heap.size w1.heap.size u7 l7 ⟨jw, jl, S, .slice (some ⟨vg, 0, none⟩) S.length vc⟩ wr hH hV hl7 HO7.out
            unfold gV at hput
            dsimp only at hput
            have HH : Hid (Heap wr w1.heap.size w1.heap.size u7 l7) := hH
            have HRW : Hid (wr.ownsRow w'.heap.size 3 1 (.slice (some ⟨w'.heap.size, 0, none⟩) F.length F.length) F.length ((Hf.up (Hf.bump out S)).map Iv)) := hrow
            have HBW : Hid (Below w'.heap.size w' wr) := hBw
            obtain ⟨j0, j1, j2, _, _, _, _⟩ := hJ
            dsimp only at j0 j1 j2
            clear hH hV hBw hrow hkp
            go_wp2_with fail
            refine hput.mono ?_
            rintro e w11 ⟨rfl, u11, l11, p11, o11, H11, K11⟩
            clear hput j0 j1 j2
            have HI11 : Hid (∃ u l out, Lst F w' w11 w'.heap.size w1.heap.size l u out ∧ (N0 = 0 → out = List.replicate F.length 0 ∧ l.length = 0) ∧ (N0 ≠ 0 → 1 ≤ l.length)) := by
              refine ⟨u11, l11, Hf.bump out S, ⟨H11, o11, ?_, own_kept HRW.out K11 (HH.out.sign_apart HRW.out), HBW.out.trans ((HH.out.below K11).mono (by omega))⟩, fun e => ?_, fun _ => ?_⟩
              · exact HSTEP.out.perm ((p11.map Hf.ab).symm)
              · have := (HZ.out e).2; omega
              · rw [p11.length_eq]; simp
            have HM : Hid (itemsLen w11 w1.heap.size < itemsLen w4 w1.heap.size) := by
              show _ < _
              rw [H11.len, HLN.out, p11.length_eq]
              have := HL5.out
              have := HL7.out
              simp
              omega
            clear p11 o11 H11 K11
            go_wp2_with fail
            go_roundw
            case rel => exact HI11
            case measure => exact HM.out
      · have HHL : Hid (Hf.HL F out) := by
          refine ⟨HS.out.inv.len, fun e => (HZ.out (by rw [HN0.out]; exact e)).1, fun x e => absurd (by rw [HN0.out, e]; rfl) HN1.out, fun e => ?_⟩
          have h1 : l.length = 1 := by have := HNZ.out (by rw [HN0.out]; omega); omega
          obtain ⟨y, rfl⟩ := List.length_eq_one_iff.1 h1
          exact HS.out.inv.done
        go_wp2_with fail
        go_ret2
        exact ⟨_, _, rfl, HHL.out, HS.out.row, HS.out.bel⟩
end Go.Proofs.Ytoohekdaihhflaa
