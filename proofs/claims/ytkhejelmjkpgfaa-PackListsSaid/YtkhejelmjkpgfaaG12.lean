/-
  What makeBook of package press answers.
  The walk of lumkeep.LzPacked: it returns true.
  The library's contracts at this program: stringslite_Clone (laid by the guide's own tools, written out in plain words).
  What Open of package press answers.
  What One of package pack answers.
  What Rest of the document's answer (package lumref) answers: the remainder, never below nought.
-/
import Derived.Test.YtkhejelmjkpgfaaG5
import Derived.Deep.RegionLaw
import Derived.Deep.RegionHeld3
import Derived.Deep.AppendLies
import Derived.Test.YtkhejelmjkpgfaaG4
import Derived.Shelf.Strconv.Clone
import Derived.Test.YtkhejelmjkpgfaaProg
import Derived.Test.YtkhejelmjkpgfaaG11
import Derived.Test.YtkhejelmjkpgfaaG0

namespace Go.Proofs.Ytkhejelmjkpgfaa
open Go.RowKit
set_option maxRecDepth 4000

set_option maxHeartbeats 1000000 in
theorem make_form (v : Value) (l : List Nat) (w : World) (h : Ints w v (Hf.up l)) (h1 : 1 ≤ l.length) (h2 : l.length ≤ 256) (h3 : ∀ n ∈ l, n ≤ 48) (hk : 281474976710656 < Hf.ksum l) :
    Calls Try.prog 84 #[v] w fun e w' => e = .returned (.tuple #[.pointer none, .int .i64 4]) ∧ w' = w := by
  have hc := codes_form v l w h h1 h2 h3 hk
  clear h3 hk
  go_enter Try.func84, Try.ntmps84
  go_wp2_with fail
  refine hc.mono ?_
  rintro e w' ⟨rfl, rfl⟩
  go_wp2_with fail
  go_ret2
  exact ⟨rfl, rfl⟩

/-- a book with nothing in it -/
theorem zero_book : Try.zeroCells162 = (bookC (fun _ => 0) fun _ => .slice none 0 0).toArray := by kernel_rfl
theorem Book.new (w : World) (base : Nat) (l : List Nat) (hb : base ≤ w.heap.size) : Book (w.alloc (.cells Try.zeroCells162 162)) base w.heap.size l 0 (fun _ => .slice none 0 0) := by
  rw [zero_book]
  refine ⟨heap_alloc_new w _, hb, fun n _ => World.ownsRow_nil _ _ _ _, fun n m _ _ _ g hg => ?_⟩
  simp [Value.ownBlock] at hg
theorem BookF.congr {W : World} {base G : Nat} {f f' : Nat → Nat} {S S' : Nat → List Nat} {V : Nat → Value} (h : BookF W base G f S V) (hf : ∀ n, n ≤ 48 → f n = f' n) (hS : ∀ n, n ≤ 48 → S n = S' n) : BookF W base G f' S' V :=
  ⟨by rw [← bookC_congr (V := V) hf fun _ _ => rfl]; exact h.box, h.old, fun n hn => by rw [← hS n hn]; exact h.row n hn, h.apart⟩
theorem BookF.not_row {W : World} {base G : Nat} {f : Nat → Nat} {S : Nat → List Nat} {V : Nat → Value} (h : BookF W base G f S V) {b n k : Nat} {e : TypeId} {v : Value} {xs : List Value} (hr : W.ownsRow b e k v n xs) (he : e ≠ 162) : ∀ g, v.ownBlock = some g → g ≠ G := by
  intro g hg e'
  subst e'
  obtain ⟨cur, hc, _⟩ := own_block hr hg
  have := hc.symm.trans h.box
  simp at this
  exact he this.2
theorem BookF.drew {W : World} {base G : Nat} {f : Nat → Nat} {S : Nat → List Nat} {V : Nat → Value} (h : BookF W base G f S V) : BookF W.drew base G f S V :=
  ⟨h.box, h.old, fun n hn => (h.row n hn).drew, h.apart⟩
theorem BookF.first {w : World} {base G n x : Nat} {f : Nat → Nat} {S : Nat → List Nat} {V : Nat → Value} (h : BookF w base G f S V) :
    BookF (w.setCell ⟨G, n * 2, none⟩ (.int .i64 (x : Int))) base G (fun m => if m = n then x else f m) S V := by
  have hk : Kept (fun k => k ≠ G) w (w.setCell ⟨G, n * 2, none⟩ (.int .i64 (x : Int))) := (Kept.refl _ _).setCell (by simp) _
  refine ⟨?_, h.old, fun m hm => own_kept (h.row m hm) hk (h.not_row (h.row m hm) (by decide)), h.apart⟩
  rw [heap_setCell_same _ _ _ _ _ _ h.box, ← bookC_set0]
  simp
/-- one sign more on a shelf -/
theorem BookF.pushed {w w1 : World} {base G g cap n x : Nat} {f : Nat → Nat} {S : Nat → List Nat} {V : Nat → Value} {o : Obj} (h : BookF w base G f S V) (hn : n ≤ 48) (hx : x < 256)
    (hown : w1.ownsRow base 5 1 (.slice (some ⟨g, 0, none⟩) ((S n).length + 1) cap) ((S n).length + 1) ((Pr.upB (S n)).map B ++ [.int .u8 (x : Int)]))
    (hg : ((w.alloc o).drew).grownBy w1 (V n).ownBlock) (hat : (V n).ownBlock = some g ∨ g = w.heap.size + 1) :
    BookF (w1.setCell ⟨G, n * 2 + 1, none⟩ (.slice (some ⟨g, 0, none⟩) ((S n).length + 1) cap)) base G f (fun m => if m = n then S n ++ [x] else S m) (fun m => if m = n then .slice (some ⟨g, 0, none⟩) ((S n).length + 1) cap else V m) := by
  have hlt : G < w.heap.size := (Array.getElem?_eq_some_iff.1 h.box).1
  have hG1 : (V n).ownBlock ≠ some G := fun e => h.not_row (h.row n hn) (by decide) G e rfl
  have hbox : w1.heap[G]? = some (.cells (bookC f V).toArray 162 (0, 0)) := by
    rw [hg.block G (by simp; omega) (fun e => hG1 e.symm)]
    exact (((Below.refl w.heap.size w).alloc (Nat.le_refl _) o).drew).block G hlt |>.trans h.box
  have hk2 : Kept (fun k => k ≠ G) w1 (w1.setCell ⟨G, n * 2 + 1, none⟩ (.slice (some ⟨g, 0, none⟩) ((S n).length + 1) cap)) := (Kept.refl _ _).setCell (by simp) _
  have hk1 : Kept (fun k => (V n).ownBlock ≠ some k) w w1 := (((Kept.refl _ w).alloc o).drew).grown hg fun k hk hp => hp hk
  have hlt2 : ∀ m, m ≤ 48 → ∀ b, (V m).ownBlock = some b → b < w.heap.size := fun m hm b hb => by
    obtain ⟨cur, hc, _⟩ := own_block (h.row m hm) hb
    exact (Array.getElem?_eq_some_iff.1 hc).1
  have hgG : g ≠ G := by
    rcases hat with e | e
    · intro e'
      rw [e'] at e
      exact hG1 e
    · omega
  refine ⟨?_, h.old, fun m hm => ?_, fun a b ha hb hab q hq => ?_⟩
  · rw [heap_setCell_same _ _ _ _ _ _ hbox, ← bookC_set1]
    simp
  · by_cases e : m = n
    · subst e
      simp only [if_true]
      rw [show (S m ++ [x]).length = (Pr.upB (S m) ++ [UInt8.ofNat x]).length by rw [← up_more, upB_length], up_more]
      refine own_kept (own_byte ?_) hk2 fun b hb => by simp [Value.ownBlock] at hb; omega
      rw [UInt8.toNat_ofNat', Nat.mod_eq_of_lt hx, upB_length]
      exact hown
    · simp only [if_neg e]
      exact own_kept (own_kept (h.row m hm) hk1 fun b hb => h.apart m n hm hn e b hb) hk2 (h.not_row (h.row m hm) (by decide))
  · by_cases e1 : a = n
    · subst e1
      simp only [if_true] at hq
      rw [if_neg (Ne.symm hab)]
      obtain rfl : g = q := by simpa [Value.ownBlock] using hq
      rcases hat with e | e
      · exact h.apart a b ha hb hab g e
      · intro e'
        have := hlt2 b hb g e'
        omega
    · simp only [if_neg e1] at hq
      by_cases e2 : b = n
      · subst e2
        simp only [if_true]
        intro e'
        obtain rfl : g = q := by simpa [Value.ownBlock] using e'
        rcases hat with e | e
        · exact h.apart a b ha hb hab g hq e
        · have := hlt2 a ha g hq
          omega
      · simp only [if_neg e2]
        exact h.apart a b ha hb hab q hq

theorem one_at {W : World} {B : Nat} {x : Value} (h0 : W.cell? ⟨B, 0, none⟩ = some x) : ∀ j u, [x][j]? = some u → W.cell? ((⟨B, 0, none⟩ : Addr).add j) = some u := by
  intro j u hj
  rw [Addr.add_mid, Nat.zero_add]
  match j, hj with
  | 0, hj => rw [h0]; exact hj
/-- the sign k put into a book -/
theorem Book.push {wc w2 : World} {base G g cap n k L : Nat} {l : List Nat} {V : Nat → Value} {u : Value} {xs : List Value} {o : Obj} (h : BookF wc base G (fun m => if m = n then Pr.fst l n (k + 1) else Pr.fst l m k) (fun m => Pr.shelf l m k) V) (hn : n ≤ 48) (h0 : 0 < n) (hk : k < 256) (hln : l.getD k 0 = n)
    (hrow : wc.ownsRow base 3 1 u L xs) (hB : base ≤ wc.heap.size)
    (hown : w2.ownsRow base 5 1 (.slice (some ⟨g, 0, none⟩) ((Pr.shelf l n k).length + 1) cap) ((Pr.shelf l n k).length + 1) ((Pr.upB (Pr.shelf l n k)).map B ++ [.int .u8 (k : Int)]))
    (hg : ((wc.alloc o).drew).grownBy w2 (V n).ownBlock) (hat : (V n).ownBlock = some g ∨ g = wc.heap.size + 1) :
    (∃ V', Book (w2.setCell ⟨G, n * 2 + 1, none⟩ (.slice (some ⟨g, 0, none⟩) ((Pr.shelf l n k).length + 1) cap)) base G l (k + 1) V') ∧ (w2.setCell ⟨G, n * 2 + 1, none⟩ (.slice (some ⟨g, 0, none⟩) ((Pr.shelf l n k).length + 1) cap)).ownsRow base 3 1 u L xs ∧
    Below base wc (w2.setCell ⟨G, n * 2 + 1, none⟩ (.slice (some ⟨g, 0, none⟩) ((Pr.shelf l n k).length + 1) cap)) := by
  have hk1 : Kept (fun q => (V n).ownBlock ≠ some q ∧ q ≠ G) wc (w2.setCell ⟨G, n * 2 + 1, none⟩ (.slice (some ⟨g, 0, none⟩) ((Pr.shelf l n k).length + 1) cap)) := ((((Kept.refl _ wc).alloc o).drew).grown hg fun q hq hp => hp.1 hq).setCell (fun h => h.2 rfl) _
  refine ⟨⟨_, (h.pushed hn hk hown hg hat).congr (fun m hm => ?_) (fun m hm => ?_)⟩, ?_, ?_⟩
  · by_cases e : m = n
    · subst e; simp only [if_true]
    · simp only [if_neg e]
      exact (Pr.fst_miss (by omega)).symm
  · by_cases e : m = n
    · subst e; simp only [if_true]
      exact (Pr.shelf_hit h0 hln).symm
    · simp only [if_neg e]
      exact (Pr.shelf_miss (by omega)).symm
  · refine own_kept hrow hk1 fun q hq => ⟨fun e => ?_, h.not_row hrow (by decide) q hq⟩
    obtain ⟨cur, hc, _⟩ := own_block hrow hq
    obtain ⟨cur', hc', _⟩ := own_block (h.row n hn) e
    have := hc.symm.trans hc'
    simp at this
  · refine hk1.below hB fun q hq => ⟨fun e => ?_, ?_⟩
    · obtain ⟨_, _, hb⟩ := own_block (h.row n hn) e
      omega
    · have := h.old
      omega
theorem Book.grown_cell {wc w2 : World} {base G n : Nat} {f : Nat → Nat} {S : Nat → List Nat} {V : Nat → Value} {o : Obj} (h : BookF wc base G f S V) (hn : n ≤ 48) (hg : ((wc.alloc o).drew).grownBy w2 (V n).ownBlock) : w2.cell? ⟨G, n * 2 + 1, none⟩ = some (V n) ∧ w2.frozen? ⟨G, n * 2 + 1, none⟩ = false := by
  have hlt : G < wc.heap.size := (Array.getElem?_eq_some_iff.1 h.box).1
  have hG1 : (V n).ownBlock ≠ some G := fun e => h.not_row (h.row n hn) (by decide) G e rfl
  have hbox : w2.heap[G]? = some (.cells (bookC f V).toArray 162 (0, 0)) := by
    rw [hg.block G (by simp; omega) (fun e => hG1 e.symm)]
    exact (((Below.refl wc.heap.size wc).alloc (Nat.le_refl _) o).drew).block G hlt |>.trans h.box
  obtain ⟨b1, b2⟩ := row_cells hbox (n * 2 + 1) (by rw [bookC_length]; omega)
  exact ⟨b1.trans (bookC_signs _ _ n hn), b2⟩

set_option maxHeartbeats 4000000 in
theorem make_any (v : Value) (l : List Nat) (w : World) (h : Ints w v (Hf.up l)) (h1 : 1 ≤ l.length) (h2 : l.length ≤ 256) (h3 : ∀ n ∈ l, n ≤ 48) (hk : Hf.ksum l ≤ 281474976710656) :
    Calls Try.prog 84 #[v] w fun e w' => ∃ (G : Nat) (V : Nat → Value), e = .returned (.tuple #[.pointer (some ⟨G, 0, none⟩), .int .i64 0]) ∧ Book w' w.heap.size G l l.length V ∧ Below w.heap.size w w' := by
  obtain ⟨i0, hi, hz0, hz1, hz2⟩ := info_parts info_u8
  have hc := codes_any v l w h h1 h2 h3 hk
  obtain ⟨a, c, rfl⟩ := h.slice
  rw [Hf.up_length] at h hc ⊢
  have HI : Hid (Ints w (.slice a l.length c) (Hf.up l)) := h
  have H3 : Hid (∀ n ∈ l, n ≤ 48) := h3
  clear h h3 hk
  go_enter Try.func84, Try.ntmps84
  go_wp2_with fail
  refine hc.mono ?_
  rintro e w1 ⟨v1, rfl, hown1, hb1⟩
  obtain ⟨g1, c1, rfl⟩ : ∃ g1 c1, v1 = .slice (some ⟨g1, 0, none⟩) l.length c1 := by
    rcases hown1.2 with ⟨_, h0⟩ | ⟨g, cap, _, hv, _⟩
    · omega
    · exact ⟨g, cap, hv⟩
  clear hc
  have HN : Hid (Book (w1.alloc (.cells Try.zeroCells162 162)) w.heap.size w1.heap.size l 0 (fun _ => .slice none 0 0)) := Book.new w1 w.heap.size l hb1.size
  have HB1 : Hid (Below w.heap.size w (w1.alloc (.cells Try.zeroCells162 162))) := hb1.alloc hb1.size _
  have HC1 : Hid ((w1.alloc (.cells Try.zeroCells162 162)).ownsRow w.heap.size 3 1 (.slice (some ⟨g1, 0, none⟩) l.length c1) l.length ((Hf.codes l).map Iv)) := hown1.alloc _
  have HWW : Hid (w.heap.size ≤ w1.heap.size) := hb1.size
  obtain ⟨W0, hW0⟩ : ∃ W0, W0 = w1.alloc (.cells Try.zeroCells162 162) := ⟨_, rfl⟩
  rw [← hW0] at HN HB1 HC1
  clear hown1 hb1
  go_wp2_with fail
  rw [← hW0]
  clear hW0
  go_loopw [21] (fun i wr => ∃ (k : Nat) (V : Nat → Value), k ≤ l.length ∧ i = .int .i64 k ∧ Hid (Book wr w.heap.size w1.heap.size l k V) ∧ Hid (wr.ownsRow w.heap.size 3 1 (.slice (some ⟨g1, 0, none⟩) l.length c1) l.length ((Hf.codes l).map Iv)) ∧ Hid (Below w.heap.size w wr)) (fun i _ => l.length - (intOf i).toNat)
  case atStart => exact ⟨0, _, by omega, rfl, HN, HC1, HB1⟩
  case round =>
    clear HN HC1 HB1
    obtain ⟨k, V, hk, rfl, hbk, hrow, hbel⟩ := hrel
    by_cases hlt : k < l.length
    · obtain ⟨bk, o, rfl, hbk0, c0⟩ := (HI.out.below (Nat.le_refl _) hbel.out).getN k hlt
      have hn48 := Hf.getD_le H3.out k
      by_cases hn0 : l.getD k 0 = 0
      · have HBK : Hid (Book wr w.heap.size w1.heap.size l (k + 1) V) := hbk.out.congr (fun m hm => by
            by_cases e : m = 0
            · subst e; unfold Pr.fst; rw [Pr.shelf_nought, Pr.shelf_nought]
            · exact (Pr.fst_miss (by omega)).symm) (fun m hm => by
            by_cases e : m = 0
            · subst e; rw [Pr.shelf_nought, Pr.shelf_nought]
            · exact (Pr.shelf_miss (by omega)).symm)
        have hq : ((0 : Int) == 0) = true := rfl
        rw [hn0] at c0
        clear hn0 hbk
        go_wp2_with fail
        exact ⟨⟨k + 1, V, by omega, by go_num, HBK, hrow, hbel⟩, by simp only [intOf]; omega⟩
      · obtain ⟨n, hn⟩ : ∃ n, l.getD k 0 = n := ⟨_, rfl⟩
        rw [hn] at c0 hn48 hn0
        have HN : Hid (l.getD k 0 = n) := hn
        have hq : ((n : Int) == 0) = false := beq_eq_false_iff_ne.2 (by omega)
        obtain ⟨d0, d1, f0, f1⟩ := hbk.out.cells n hn48
        obtain ⟨a9, c9, hV, _⟩ := hbk.out.slice n hn48
        rw [hV] at d1
        have HV : Hid (V n = .slice a9 (Pr.shelf l n k).length c9) := hV
        have hsl := Pr.shelf_len l n k
        have HFE := Pr.fst_first (l := l) (n := n) (k := k) (by omega) hlt hn
        clear hn hV
        by_cases hz : (Pr.shelf l n k).length = 0
        · rw [if_pos hz] at HFE
          have HF : Hid (∀ wx, BookF wx w.heap.size w1.heap.size (fun m => if m = n then Hf.code l k else Pr.fst l m k) (fun m => Pr.shelf l m k) V → BookF wx w.heap.size w1.heap.size (fun m => if m = n then Pr.fst l n (k + 1) else Pr.fst l m k) (fun m => Pr.shelf l m k) V) := fun wx h => by rw [HFE]; exact h
          have hc2 := own_at hrow.out k (by rw [Hf.codes_length]; exact hlt)
          have hc3 : (Hf.codes l)[k]'(by rw [Hf.codes_length]; exact hlt) = (Hf.code l k : Nat) := by simp [Hf.codes]
          rw [hc3] at hc2
          have HF1 : Hid (BookF (wr.setCell ⟨w1.heap.size, n * 2, none⟩ (.int .i64 (Hf.code l k : Nat))) w.heap.size w1.heap.size (fun m => if m = n then Hf.code l k else Pr.fst l m k) (fun m => Pr.shelf l m k) V) := hbk.out.first
          have hz' : (((Pr.shelf l n k).length : Int) == 0) = true := by rw [beq_iff_eq]; omega
          have HZ : Hid ((Pr.shelf l n k).length = 0) := hz
          have hgG : g1 ≠ w1.heap.size := hbk.out.not_row hrow.out (by decide) g1 rfl
          clear hc3 HFE hz
          generalize Hf.code l k = ck at *
          generalize Pr.fst l n k = fk at *
          go_wp2_with fail
          go_cut [] from 36 to 44 (fun wx => Hid (BookF wx w.heap.size w1.heap.size (fun m => if m = n then Pr.fst l n (k + 1) else Pr.fst l m k) (fun m => Pr.shelf l m k) V ∧ wx.ownsRow w.heap.size 3 1 (.slice (some ⟨g1, 0, none⟩) l.length c1) l.length ((Hf.codes l).map Iv) ∧ Below w.heap.size w wx))
          case first =>
            go_region
            all_goals go_wp2_with fail
            all_goals go_meet
            all_goals
              have hk3 : Kept (fun q => q ≠ w1.heap.size) wr (wr.setCell ⟨w1.heap.size, n * 2, none⟩ (.int .i64 (ck : Nat))).drew := ((Kept.refl _ _).setCell (by simp) _).drew
              exact ⟨HF.out _ (BookF.drew HF1.out), own_kept hrow.out hk3 (hbk.out.not_row hrow.out (by decide)), hbel.out.trans (hk3.below hbel.out.size fun q hq => by have := HWW.out; omega)⟩
          case rest =>
            obtain ⟨e1, e2, e3⟩ := hcut.out
            have HQ1 : Hid (BookF wc w.heap.size w1.heap.size (fun m => if m = n then Pr.fst l n (k + 1) else Pr.fst l m k) (fun m => Pr.shelf l m k) V) := e1
            have HQ2 : Hid (wc.ownsRow w.heap.size 3 1 (.slice (some ⟨g1, 0, none⟩) l.length c1) l.length ((Hf.codes l).map Iv)) := e2
            have HQ3 : Hid (Below w.heap.size w wc) := e3
            clear hcut e1 e2 e3 d0 d1 f0 f1 hc2 hrow hbel hbk c0 HF HF1 hz' HZ hgG hbk0
            have hsg := HQ1.out.row n hn48
            rw [HV.out] at hsg
            have hrow9 : ∀ o, ((wc.alloc o).drew).ownsRow w.heap.size 5 1 (.slice a9 (Pr.shelf l n k).length c9) (Pr.shelf l n k).length ((Pr.upB (Pr.shelf l n k)).map B) := fun o => (hsg.alloc o).drew
            have HQ : Hid (∀ o w2, ((wc.alloc o).drew).grownBy w2 (Value.slice a9 (Pr.shelf l n k).length c9).ownBlock → w2.cell? ⟨w1.heap.size, n * 2 + 1, none⟩ = some (.slice a9 (Pr.shelf l n k).length c9) ∧ w2.frozen? ⟨w1.heap.size, n * 2 + 1, none⟩ = false) := fun o w2 hg => by
              rw [← HV.out] at hg ⊢
              exact Book.grown_cell HQ1.out hn48 hg
            have d1 : wc.cell? ⟨w1.heap.size, n * 2 + 1, none⟩ = some (.slice a9 (Pr.shelf l n k).length c9) := by
              have := (row_cells HQ1.out.box (n * 2 + 1) (by rw [bookC_length]; omega)).1.trans (bookC_signs _ _ n hn48)
              rw [HV.out] at this
              exact this
            have hwc := HQ3.out.size
            have hk256 : k < 256 := by omega
            have n49 : n < 49 := by omega
            have n49' : (n : Int) < 49 := by omega
            have hw8 : IntKind.u8.wrap (k : Int) = (k : Int) := by simp only [IntKind.wrap, IntKind.bits, IntKind.signed]; simp; omega
            have hGlt : w1.heap.size < wc.heap.size := (Array.getElem?_eq_some_iff.1 HQ1.out.box).1
            clear hsg
            go_wp2_with fail
            go_region_law ((refine step_append_lies _ (by rfl) (.tmp 52) (.tmp 55) 51 (by rfl) w.heap.size 5 i0 (.int .u8 0) 1 1 Try.underlying51 hi hz0 hz1 hz2 rfl (by decide) (.slice a9 (Pr.shelf l n k).length c9) (Pr.shelf l n k).length ((Pr.upB (Pr.shelf l n k)).map B) (by rfl) (hrow9 _) ⟨wc.heap.size, 0, none⟩ 1 1 [.int .u8 (k : Int)] (by rfl) (by rfl) (one_at (by simp)) (by simp [Value.oneCell']) (by decide) (by unfold maxLen; omega) (by omega) (by simp; omega) (wc.heap.size + 1) (by simp) ?_; intro g cap w2 hown2 hgrow hat hlt2; obtain ⟨q1, q2⟩ := HQ.out _ _ hgrow))
            all_goals have HX : Hid _ := Book.push (o := _) HQ1.out hn48 (by omega) hk256 HN.out HQ2.out HQ3.out.size hown2 (by rw [HV.out]; exact hgrow) (by rw [HV.out]; exact hat)
            all_goals clear hown2 hgrow hat q1 q2
            all_goals go_wp2_with fail
            all_goals obtain ⟨⟨V', x1⟩, x2, x3⟩ := HX.out
            all_goals exact ⟨⟨k + 1, V', by omega, by go_num, x1, x2, HQ3.out.trans x3⟩, by simp only [intOf]; omega⟩
        · rw [if_neg hz] at HFE
          have hz' : (((Pr.shelf l n k).length : Int) == 0) = false := by rw [beq_eq_false_iff_ne]; omega
          have HQ1 : Hid (BookF wr w.heap.size w1.heap.size (fun m => if m = n then Pr.fst l n (k + 1) else Pr.fst l m k) (fun m => Pr.shelf l m k) V) := hbk.out.congr (fun m hm => by
            by_cases e : m = n
            · subst e; simp only [if_true]; exact HFE.symm
            · simp only [if_neg e]) fun _ _ => rfl
          have HQ2 : Hid (wr.ownsRow w.heap.size 3 1 (.slice (some ⟨g1, 0, none⟩) l.length c1) l.length ((Hf.codes l).map Iv)) := hrow
          have HQ3 : Hid (Below w.heap.size w wr) := hbel
          clear d0 f0 hrow hbel hbk HFE hz
          generalize Pr.fst l n k = fk at *
          have hsg := HQ1.out.row n hn48
          rw [HV.out] at hsg
          have hrow9 : ∀ o, ((wr.alloc o).drew).ownsRow w.heap.size 5 1 (.slice a9 (Pr.shelf l n k).length c9) (Pr.shelf l n k).length ((Pr.upB (Pr.shelf l n k)).map B) := fun o => (hsg.alloc o).drew
          have HQ : Hid (∀ o w2, ((wr.alloc o).drew).grownBy w2 (Value.slice a9 (Pr.shelf l n k).length c9).ownBlock → w2.cell? ⟨w1.heap.size, n * 2 + 1, none⟩ = some (.slice a9 (Pr.shelf l n k).length c9) ∧ w2.frozen? ⟨w1.heap.size, n * 2 + 1, none⟩ = false) := fun o w2 hg => by
            rw [← HV.out] at hg ⊢
            exact Book.grown_cell HQ1.out hn48 hg
          have d1' : wr.cell? ⟨w1.heap.size, n * 2 + 1, none⟩ = some (.slice a9 (Pr.shelf l n k).length c9) := by
            have := (row_cells HQ1.out.box (n * 2 + 1) (by rw [bookC_length]; omega)).1.trans (bookC_signs _ _ n hn48)
            rw [HV.out] at this
            exact this
          have hwr := HQ3.out.size
          have hk256 : k < 256 := by omega
          have n49 : n < 49 := by omega
          have n49' : (n : Int) < 49 := by omega
          have hw8 : IntKind.u8.wrap (k : Int) = (k : Int) := by simp only [IntKind.wrap, IntKind.bits, IntKind.signed]; simp; omega
          have hGlt : w1.heap.size < wr.heap.size := (Array.getElem?_eq_some_iff.1 HQ1.out.box).1
          clear hsg
          go_wp2_with fail
          go_region_law ((refine step_append_lies _ (by rfl) (.tmp 52) (.tmp 55) 51 (by rfl) w.heap.size 5 i0 (.int .u8 0) 1 1 Try.underlying51 hi hz0 hz1 hz2 rfl (by decide) (.slice a9 (Pr.shelf l n k).length c9) (Pr.shelf l n k).length ((Pr.upB (Pr.shelf l n k)).map B) (by rfl) (hrow9 _) ⟨wr.heap.size, 0, none⟩ 1 1 [.int .u8 (k : Int)] (by rfl) (by rfl) (one_at (by simp)) (by simp [Value.oneCell']) (by decide) (by unfold maxLen; omega) (by omega) (by simp; omega) (wr.heap.size + 1) (by simp) ?_; intro g cap w2 hown2 hgrow hat hlt2; obtain ⟨q1, q2⟩ := HQ.out _ _ hgrow))
          all_goals have HX : Hid _ := Book.push (o := _) HQ1.out hn48 (by omega) hk256 HN.out HQ2.out HQ3.out.size hown2 (by rw [HV.out]; exact hgrow) (by rw [HV.out]; exact hat)
          all_goals clear hown2 hgrow hat q1 q2
          all_goals go_wp2_with fail
          all_goals obtain ⟨⟨V', x1⟩, x2, x3⟩ := HX.out
          all_goals exact ⟨⟨k + 1, V', by omega, by go_num, x1, x2, HQ3.out.trans x3⟩, by simp only [intOf]; omega⟩
    · obtain rfl : k = l.length := by omega
      go_wp2_with fail
      go_ret2
      exact ⟨_, V, rfl, hbk.out, hbel.out⟩
end Go.Proofs.Ytkhejelmjkpgfaa

namespace Go.Proofs.Ytkhejelmjkpgfaa
open Go.RowKit

namespace Lz
theorem tok_raws {l : List Tr} (h : ∀ t ∈ l, t.form) : (l.map Tr.tok).map Tk.raw = l := by
  rw [List.map_map]
  conv => rhs; rw [← List.map_id l]
  exact List.map_congr_left fun t ht => (Tr.tok_raw (h t ht)).1
theorem read_packd {l : List Tr} (h : chk l = 0) : (rd (packd l)).2 = 0 ∧ rdR (packd l) = l := by
  obtain ⟨hl, hf⟩ := chk_zero h
  have hp : packd l = pack (l.map Tr.tok) := if_pos h
  have hr : rd (packd l) = (l.map Tr.tok, 0) := by
    rw [hp]
    exact read_pack (l.map Tr.tok) [] (fun t ht => by
      obtain ⟨u, hu, rfl⟩ := List.mem_map.1 ht
      exact (Tr.tok_raw (hf u hu)).2) (by rw [List.length_map]; simp; omega)
  refine ⟨by rw [hr], ?_⟩
  unfold rdR
  rw [hr]
  exact tok_raws hf
theorem rdA_error (k : Nat) (out : List Tk) (X : Bs) (hk : X.length ≤ k) (h : (rdA out X).2 ≠ 0) : (rdA out X).1 = [] ∧ X ≠ [] := by
  induction k generalizing out X with
  | zero =>
    obtain rfl : X = [] := List.length_eq_zero_iff.1 (by omega)
    exact absurd rfl h
  | succ k ih =>
    by_cases hX : X = []
    · subst hX; exact absurd rfl h
    · obtain ⟨h1, h2⟩ := rdA_rt out X hX
      refine ⟨?_, hX⟩
      rw [h1] at h ⊢
      by_cases e : (rt X).2.2 = 0
      · rw [if_pos e] at h ⊢
        obtain ⟨_, h3, h4⟩ := h2 e
        by_cases e2 : out.length = 4096
        · rw [if_pos e2]
        · rw [if_neg e2] at h ⊢
          exact (ih _ _ (by rw [List.length_drop]; omega) h).1
      · rw [if_neg e]
theorem packd_read {X : Bs} (h : (rd X).2 = 0) : chk (rdR X) = 0 ∧ packd (rdR X) = X := by
  obtain ⟨m, h1, h2, h3, h4⟩ := pack_read X.length X (Nat.le_refl _) [] (rd X).1 (by rw [← h]; rfl) (by simp)
  rw [List.nil_append] at h1
  have hc : chk (rdR X) = 0 := by
    unfold chk rdR
    rw [if_neg (by rw [List.length_map]; omega), if_pos]
    intro t ht
    obtain ⟨u, hu, rfl⟩ := List.mem_map.1 ht
    exact (h3 u (by rw [← h1]; exact hu)).form
  refine ⟨hc, ?_⟩
  unfold packd
  rw [if_pos hc]
  unfold rdR
  rw [List.map_map, h1, ← h2]
  congr 1
  conv => rhs; rw [← List.map_id m]
  exact List.map_congr_left fun t _ => raw_tok t
end Lz
end Go.Proofs.Ytkhejelmjkpgfaa

namespace Go.Proofs
open Go.Shelf
def Try.laysM316_ren : Go.Shelf.Ren := ⟨fun | 316 => 114 | n => n, fun | 9 => 9 | 3 => 3 | 4 => 4 | 37 => 51 | 0 => 0 | 127 => 128 | 5 => 5 | n => n, fun | n => n⟩
theorem Try.laysM316 : Go.Proofs.LaysM.n316 Try.prog Try.laysM316_ren := {
  mixed := by kernel_rfl
  f316 := Try.func114.trans (congrArg some (by kernel_rfl))
  t0 := Try.underlying0
  a0 := Try.isAgg0
  z0 := Try.sizeOf0
  v0 := Try.zeroValue0
  t3 := Try.underlying3
  a3 := Try.isAgg3
  z3 := Try.sizeOf3
  v3 := Try.zeroValue3
  t4 := Try.underlying4
  a4 := Try.isAgg4
  z4 := Try.sizeOf4
  v4 := Try.zeroValue4
  t9 := Try.underlying9
  a9 := Try.isAgg9
  z9 := Try.sizeOf9
  v9 := Try.zeroValue9
  t37 := Try.underlying51
  a37 := Try.isAgg51
  z37 := Try.sizeOf51
  v37 := Try.zeroValue51
  t127 := Try.underlying128
  a127 := Try.isAgg128
  z127 := Try.sizeOf128
  v127 := Try.zeroValue128
  t5 := Try.underlying5
  a5 := Try.isAgg5
  z5 := Try.sizeOf5
  v5 := Try.zeroValue5
  i0 := by kernel_rfl
  i3 := by kernel_rfl
  i4 := by kernel_rfl
  i5 := by kernel_rfl
  i9 := by kernel_rfl
  i37 := by kernel_rfl
  i127 := by kernel_rfl }
open Go.RowKit in
theorem Try.stringslite_Clone (s : ByteArray) (w : World) (hlim : s.size ≤ 281474976710656) :
    Calls Try.prog 114 #[.string s] w fun e w' => e = .returned (.string s) ∧ Below w.heap.size w w' := Any.stringslite_Clone Try.laysM316 s w hlim
end Go.Proofs

namespace Go.Proofs.Ytkhejelmjkpgfaa
open Go.RowKit
set_option maxRecDepth 4000

namespace Pr
theorem expd_rd {T : Bs} {n : Nat} (hn : n ≤ 4096) (h : (Lz.rd T).2 = 0) : Lz.expd (Lz.rdR T) n = Lz.ex n [] (Lz.rd T).1 := by
  unfold Lz.expd
  rw [if_neg (by omega), if_pos (Lz.packd_read h).1, Int.toNat_natCast]
  unfold Lz.rdR
  rw [List.map_map]
  congr 1
  conv => rhs; rw [← List.map_id (Lz.rd T).1]
  exact List.map_congr_left fun t _ => Lz.raw_tok t
theorem opT_rd {n : Nat} {T : Bs} (h : (Lz.rd T).2 ≠ 0) : opT n T = ([], ((Lz.rd T).2 : Int)) := by
  unfold opT
  rw [if_pos (show ((Lz.rdA [] T).2 : Nat) ≠ 0 from h)]
  rfl
theorem opT_ex {n : Nat} {T : Bs} (hn : n ≤ 4096) (h : (Lz.rd T).2 = 0) (h2 : (Lz.expd (Lz.rdR T) n).2 ≠ 0) : opT n T = ([], ((Lz.expd (Lz.rdR T) n).2 : Int)) := by
  rw [expd_rd hn h] at h2 ⊢
  unfold opT
  rw [if_neg (fun h' => h' h), if_pos (show ((Lz.ex n [] (Lz.rdA [] T).1).2 : Nat) ≠ 0 from h2)]
  rfl
theorem opT_few {n : Nat} {T : Bs} (hn : n ≤ 4096) (h : (Lz.rd T).2 = 0) (h2 : (Lz.expd (Lz.rdR T) n).2 = 0) (h3 : (Lz.expd (Lz.rdR T) n).1.length < n) : opT n T = ([], 4) := by
  rw [expd_rd hn h] at h2 h3
  unfold opT
  rw [if_neg (fun h' => h' h), if_neg (fun h' => h' h2), if_pos (show (Lz.ex n [] (Lz.rdA [] T).1).1.length < n from h3)]
theorem opT_all {n : Nat} {T : Bs} (hn : n ≤ 4096) (h : (Lz.rd T).2 = 0) (h2 : (Lz.expd (Lz.rdR T) n).2 = 0) (h3 : ¬ (Lz.expd (Lz.rdR T) n).1.length < n) : opT n T = ((Lz.expd (Lz.rdR T) n).1, 0) := by
  rw [expd_rd hn h] at h2 h3 ⊢
  unfold opT
  rw [if_neg (fun h' => h' h), if_neg (fun h' => h' h2), if_neg (show ¬ (Lz.ex n [] (Lz.rdA [] T).1).1.length < n from h3)]
  rfl
theorem rs_len (l : List Nat) (m : Nat) (b : List Bool) : (rs l m b).1.length ≤ m := by
  unfold rs
  cases e : signs l m b with
  | inl q => cases q <;> exact Nat.zero_le _
  | inr q =>
    obtain ⟨t, r⟩ := q
    show (if clean r then (upB t, (0 : Int)) else ([], 4)).1.length ≤ m
    split
    · show (upB t).length ≤ m
      unfold upB
      rw [List.length_map, (signs_of e).1]
      exact Nat.le_refl _
    · exact Nat.zero_le _
theorem rdR_len (T : Bs) : (Lz.rdR T).length ≤ 4096 := by
  by_cases h : (Lz.rd T).2 = 0
  · exact (Lz.chk_zero (Lz.packd_read h).1).1
  · unfold Lz.rdR
    rw [List.length_map, show (Lz.rd T).1 = [] from (Lz.rdA_error _ [] _ (Nat.le_refl _) h).1]
    simp
theorem expd_len (l : List Lz.Tr) {n : Nat} (hn : n ≤ 4096) : (Lz.expd l n).1.length ≤ 4096 := by
  unfold Lz.expd
  split
  · exact Nat.zero_le _
  · split
    · have := Lz.ex_len (most := (n : Int).toNat) (out := []) (l := l.map Lz.Tr.tok) (Nat.zero_le _)
      omega
    · exact Nat.zero_le _
end Pr

set_option maxHeartbeats 400000 in
theorem clone_any (s : ByteArray) (w : World) (hs : s.size ≤ 281474976710656) :
    Calls Try.prog 82 #[.string s] w fun e w' => e = .returned (.string s) ∧ Below w.heap.size w w' := by
  go_enter Try.func82, Try.ntmps82
  go_wp2_with (refine (Try.stringslite_Clone _ _ hs).mono ?_; rintro e w' ⟨rfl, hb⟩)
  go_ret
  exact ⟨rfl, hb⟩

set_option maxHeartbeats 400000 in
theorem oplain_any (s : ByteArray) (w : World) (hs : s.size ≤ 140737488351232) (O : Pr.Bs × Int) (hO : (if 4096 < s.data.toList.length then ([], 2) else (s.data.toList, 0)) = O) :
    Calls Try.prog 52 #[.string s] w fun e w' => ∃ s' : ByteArray, e = .returned (.tuple #[.string s', .int .i64 O.2]) ∧ s'.data.toList = O.1 ∧ Below w.heap.size w w' := by
  rw [← Lib.size_eq] at hO
  by_cases h : 4096 < s.size
  · rw [if_pos h] at hO
    subst hO
    go_enter Try.func52, Try.ntmps52
    go_wp2_with fail
    go_ret2
    exact ⟨⟨#[]⟩, rfl, rfl, Below.refl _ _⟩
  · rw [if_neg h] at hO
    have HO : Hid ((s.data.toList, (0 : Int)) = O) := hO
    have hc := clone_any s w (by omega)
    clear hO
    go_enter Try.func52, Try.ntmps52
    go_wp2_with fail
    refine hc.mono ?_
    rintro e w' ⟨rfl, hb⟩
    go_wp2_with fail
    go_ret2
    exact ⟨s, by rw [← HO.out]; rfl, by rw [← HO.out], hb⟩

set_option maxHeartbeats 4000000 in
theorem ocoded_any (s : ByteArray) (w : World) (hs : s.size ≤ 140737488351232) (O : Pr.Bs × Int) (hO : Pr.opC s.data.toList = O) :
    Calls Try.prog 53 #[.string s] w fun e w' => ∃ s' : ByteArray, e = .returned (.tuple #[.string s', .int .i64 O.2]) ∧ s'.data.toList = O.1 ∧ Below w.heap.size w w' := by
  rw [Pr.opC_hd] at hO
  have HO : Hid ((if Pr.hdE s.data.toList ≠ 0 then ([], Pr.hdE s.data.toList) else Pr.opS ((Pr.H3 s.data.toList).1.getD 0 0) ((Pr.H3 s.data.toList).1.getD 1 0) (Pr.PP s.data.toList).1 (Pr.PP s.data.toList).2.1) = O) := hO
  have hh := rhead_any s w hs
  clear hO
  generalize s.data.toList = L at *
  go_enter Try.func53, Try.ntmps53
  go_wp2_with fail
  refine hh.mono ?_
  rintro e w1 ⟨n, m, v, s1, rfl, ⟨va, vn, vc, rfl⟩, z1, hH, hb1⟩
  clear hh
  have HB0 : Hid (Below w.heap.size w w1) := hb1
  by_cases x1 : Pr.hdE L = 0
  case neg =>
    have HE : Hid (O = ([], Pr.hdE L)) := by show O = _; rw [← HO.out, if_pos x1]
    generalize Pr.hdE L = E at *
    have hq : (E != 0) = true := by simpa using x1
    clear hH x1 HO hb1
    go_wp2_with fail
    go_ret2
    exact ⟨⟨#[]⟩, by rw [HE.out]; rfl, by rw [HE.out], HB0.out.alloc HB0.out.size _⟩
  obtain ⟨y1, y2, y3, y4, y5, y6, y7, y8⟩ := hH x1
  rw [x1, if_neg (by simp), y1, y3, Pr.opS_rs, ← y6] at HO
  generalize (Pr.PP L).1 = wide at *
  rw [x1]
  clear hH x1 y1 y3 y6 hb1
  obtain ⟨W1, hW1⟩ : ∃ W1, W1 = w1.alloc (.cells #[.int .i64 (n : Int), .int .i64 (m : Int), .slice va vn vc] 118) := ⟨_, rfl⟩
  have HX1 : Hid (W1.heap[w1.heap.size]? = some (.cells #[.int .i64 (n : Int), .int .i64 (m : Int), .slice va vn vc] 118 (0, 0))) := by rw [hW1]; exact heap_alloc_new w1 _
  have hb11 : Below w1.heap.size w1 W1 := by rw [hW1]; exact (Below.refl _ w1).alloc (Nat.le_refl _) _
  have HB1 : Hid (Below w.heap.size w W1) := HB0.out.trans (hb11.mono HB0.out.size)
  have hrow : W1.ownsRow w.heap.size 3 1 (.slice va vn vc) 256 ((Hf.up wide).map Iv) := row_below y5 hb11
  have hints : Ints W1 (.slice va vn vc) (Hf.up wide) := Ints.of_own (base := w.heap.size) (by rw [Hf.up_length, y7]; exact hrow)
  have HZ1 : Hid (w1.heap.size < W1.heap.size) := (Array.getElem?_eq_some_iff.1 HX1.out).1
  clear y5 hb11 hrow HB0
  by_cases hks : 2 ^ 48 < Hf.ksum wide
  · have hm := make_form (.slice va vn vc) wide W1 hints (by omega) (by omega) y8 hks
    rw [if_pos hks] at HO
    have HE : Hid (O = ([], 4)) := HO.out.symm
    rw [hW1] at hm
    clear HO hks hints y8 y7
    go_wp2_with fail
    refine hm.mono ?_
    rw [← hW1]
    rintro e w2 ⟨rfl, rfl⟩
    clear hm hW1
    go_wp2_with fail
    go_ret2
    exact ⟨⟨#[]⟩, by rw [HE.out]; rfl, by rw [HE.out], HB1.out⟩
  have hm := make_any (.slice va vn vc) wide W1 hints (by omega) (by omega) y8 (by omega)
  rw [if_neg hks] at HO
  have HG : Hid (Pr.Good wide) := ⟨Hf.getD_le y8, by show _ ≤ _; omega⟩
  have HL : Hid (wide.length = 256) := y7
  rw [hW1] at hm
  clear hks hints y8 y7
  go_wp2_with fail
  refine hm.mono ?_
  rw [← hW1]
  rintro e w2 ⟨G, V, rfl, hBk, hb2⟩
  clear hm hW1
  have HX2 : Hid (w2.heap[w1.heap.size]? = some (.cells #[.int .i64 (n : Int), .int .i64 (m : Int), .slice va vn vc] 118 (0, 0))) := (hb2.block _ HZ1.out).trans HX1.out
  have HB2 : Hid (Below w.heap.size w w2) := HB1.out.trans (hb2.mono HB1.out.size)
  have hr := rsigns_any W1.heap.size G wide V s1 m w2 hBk HG.out (by rw [HL.out]; omega) (by omega) y4 _ rfl
  unfold Pr.bitsS at hr
  have hTm := Pr.rs_len wide m (Pr.bitsB (Pr.dnB s1.data.toList))
  clear hBk hb2 HX1 HB1
  generalize Pr.rs wide m (Pr.bitsB (Pr.dnB s1.data.toList)) = X at *
  obtain ⟨T, e3⟩ := X
  dsimp only at hr HO hTm
  obtain ⟨S, hS⟩ : ∃ S : ByteArray, S = ⟨T.toArray⟩ := ⟨_, rfl⟩
  rw [← hS] at hr
  have hSl : S.data.toList = T := by rw [hS]
  have HSl : Hid (S.data.toList = T) := hSl
  have hSz : S.size ≤ 12288 := by rw [Lib.size_eq, hSl]; omega
  clear hS hSl hTm
  have c1 := (row_cells (cs := [.int .i64 (n : Int), .int .i64 (m : Int), .slice va vn vc]) HX2.out 1 (by simp)).1
  go_wp2_with fail
  refine hr.mono ?_
  rintro e w3 ⟨rfl, hb3⟩
  clear hr c1
  have HX3 : Hid (w3.heap[w1.heap.size]? = some (.cells #[.int .i64 (n : Int), .int .i64 (m : Int), .slice va vn vc] 118 (0, 0))) := (hb3.block _ (Array.getElem?_eq_some_iff.1 HX2.out).1).trans HX2.out
  have HB3 : Hid (Below w.heap.size w w3) := HB2.out.trans (hb3.mono HB2.out.size)
  clear hb3 HX2 HB2
  by_cases x3 : e3 = 0
  case neg =>
    have hq : (e3 != 0) = true := by simpa using x3
    have HE : Hid (O = ([], e3)) := by show O = _; rw [← HO.out, if_pos x3]
    clear HO
    go_wp2_with fail
    go_ret2
    exact ⟨⟨#[]⟩, by rw [HE.out]; rfl, by rw [HE.out], HB3.out⟩
  subst x3
  rw [if_neg (by simp)] at HO
  have hrd := read_any S w3 (by omega)
  rw [HSl.out] at hrd
  have hRl := Pr.rdR_len T
  go_wp2_with fail
  refine hrd.mono ?_
  rintro e w4 ⟨v4, rfl, hrow4, hb4⟩
  clear hrd
  obtain ⟨a4, c4, rfl⟩ := own_form hrow4
  have HX4 : Hid (w4.heap[w1.heap.size]? = some (.cells #[.int .i64 (n : Int), .int .i64 (m : Int), .slice va vn vc] 118 (0, 0))) := (hb4.block _ (Array.getElem?_eq_some_iff.1 HX3.out).1).trans HX3.out
  have HB4 : Hid (Below w.heap.size w w4) := HB3.out.trans (hb4.mono HB3.out.size)
  have htk : Toks w4 (.slice a4 (Lz.rdR T).length c4) (Lz.rdR T) := Toks.of_own hrow4
  clear hb4 HX3 HB3 hrow4
  by_cases x4 : (Lz.rd T).2 = 0
  case neg =>
    have HE : Hid (O = ([], ((Lz.rd T).2 : Int))) := by show O = _; rw [← HO.out]; exact Pr.opT_rd x4
    generalize (Lz.rd T).2 = e4 at *
    have hq : ((e4 : Int) != 0) = true := by rw [bne_iff_ne]; omega
    clear HO x4 htk
    generalize (Lz.rdR T).length = z at *
    go_wp2_with fail
    go_ret2
    exact ⟨⟨#[]⟩, by rw [HE.out]; rfl, by rw [HE.out], HB4.out⟩
  have hex := expand_any (.slice a4 (Lz.rdR T).length c4) (Lz.rdR T) n w4 htk (by omega)
  have HX4R : Hid ((Lz.rd T).2 = 0) := x4
  rw [x4]
  clear x4 htk
  have hEl := Pr.expd_len (Lz.rdR T) y2
  have HP : Hid ((Lz.expd (Lz.rdR T) n).2 ≠ 0 → O = ([], ((Lz.expd (Lz.rdR T) n).2 : Int))) := fun h => by rw [← HO.out]; exact Pr.opT_ex y2 HX4R.out h
  have HP2 : Hid ((Lz.expd (Lz.rdR T) n).2 = 0 → (Lz.expd (Lz.rdR T) n).1.length < n → O = ([], 4)) := fun h h' => by rw [← HO.out]; exact Pr.opT_few y2 HX4R.out h h'
  have HP3 : Hid ((Lz.expd (Lz.rdR T) n).2 = 0 → ¬ (Lz.expd (Lz.rdR T) n).1.length < n → O = ((Lz.expd (Lz.rdR T) n).1, 0)) := fun h h' => by rw [← HO.out]; exact Pr.opT_all y2 HX4R.out h h'
  clear HO HX4R
  generalize Lz.expd (Lz.rdR T) n = Y at *
  generalize (Lz.rdR T).length = z at *
  obtain ⟨U, e5⟩ := Y
  dsimp only at hex hEl HP HP2 HP3
  obtain ⟨S2, hS2⟩ : ∃ S2 : ByteArray, S2 = ⟨U.toArray⟩ := ⟨_, rfl⟩
  rw [← hS2] at hex
  have hSl2 : S2.data.toList = U := by rw [hS2]
  have HSl2 : Hid (S2.data.toList = U) := hSl2
  have HSz2 : Hid (S2.size = U.length) := by show _ = _; rw [Lib.size_eq, hSl2]
  clear hS2 hSl2
  have c0 := (row_cells (cs := [.int .i64 (n : Int), .int .i64 (m : Int), .slice va vn vc]) HX4.out 0 (by simp)).1
  go_wp2_with fail
  refine hex.mono ?_
  rintro e w5 ⟨rfl, hb5⟩
  clear hex c0
  have HX5 : Hid (w5.heap[w1.heap.size]? = some (.cells #[.int .i64 (n : Int), .int .i64 (m : Int), .slice va vn vc] 118 (0, 0))) := (hb5.block _ (Array.getElem?_eq_some_iff.1 HX4.out).1).trans HX4.out
  have HB5 : Hid (Below w.heap.size w w5) := HB4.out.trans (hb5.mono HB4.out.size)
  have c0 := (row_cells (cs := [.int .i64 (n : Int), .int .i64 (m : Int), .slice va vn vc]) HX5.out 0 (by simp)).1
  clear hb5 HX4 HB4 HX5
  by_cases x5 : e5 = 0
  case neg =>
    have HE : Hid (O = ([], (e5 : Int))) := HP.out x5
    have hq : ((e5 : Int) != 0) = true := by rw [bne_iff_ne]; omega
    clear HP HP2 HP3
    go_wp2_with fail
    go_ret2
    exact ⟨⟨#[]⟩, by rw [HE.out]; rfl, by rw [HE.out], HB5.out⟩
  subst x5
  by_cases x6 : U.length < n
  · have HE : Hid (O = ([], 4)) := HP2.out rfl x6
    have x7 : S2.size < n := by rw [HSz2.out]; exact x6
    clear HP HP2 HP3 x6
    go_wp2_with fail
    go_ret2
    exact ⟨⟨#[]⟩, by rw [HE.out]; rfl, by rw [HE.out], HB5.out⟩
  · have HE : Hid (O = (U, 0)) := HP3.out rfl x6
    have x7 : ¬ S2.size < n := by rw [HSz2.out]; exact x6
    clear HP HP2 HP3 x6
    go_wp2_with fail
    go_ret2
    exact ⟨S2, by rw [HE.out]; rfl, by rw [HE.out, HSl2.out], HB5.out⟩

theorem one_byte (t : ByteArray) (h : 1 ≤ t.size) : t.data.toList = t[0] :: t.data.toList.drop 1 := by
  have hl : t.data.toList.length = t.size := (Lib.size_eq t).symm
  conv => lhs; rw [← List.drop_zero (l := t.data.toList), List.drop_eq_getElem_cons (by omega)]
  rfl

set_option maxHeartbeats 1000000 in
theorem open_any (s : ByteArray) (w : World) (hs : s.size ≤ 140737488351232) :
    Calls Try.prog 37 #[.string s] w fun e w' => ∃ s' : ByteArray, e = .returned (.tuple #[.string s', .int .i64 (Pr.op s.data.toList).2]) ∧ s'.data.toList = (Pr.op s.data.toList).1 ∧ Below w.heap.size w w' := by
  by_cases h0 : s.size = 0
  · have hr : Pr.op s.data.toList = ([], 3) := by rw [List.length_eq_zero_iff.1 (show s.data.toList.length = 0 by rw [← Lib.size_eq]; exact h0)]; rfl
    rw [hr]
    go_enter Try.func37, Try.ntmps37
    go_wp2_with fail
    go_ret2
    exact ⟨⟨#[]⟩, rfl, rfl, Below.refl _ _⟩
  have hz : ((s.size : Int) == 0) = false := beq_eq_false_iff_ne.2 (by omega)
  have J0 : 0 < s.size := by omega
  have hb := one_byte s (by omega)
  have hx := ext_toList s 1
  have hxs : (s.extract 1 s.size).size ≤ 140737488351232 := by rw [ByteArray.size_extract]; omega
  have b0 := s[0].toNat_lt
  generalize ha : s[0] = a at *
  by_cases h1 : a = 0
  · have hr : Pr.op s.data.toList = if 4096 < (s.data.toList.drop 1).length then ([], 2) else (s.data.toList.drop 1, 0) := by
      rw [hb, h1]; exact Pr.op_zero _
    rw [← hx] at hr
    have hp := oplain_any (s.extract 1 s.size) w hxs _ hr.symm
    generalize Pr.op s.data.toList = O at *
    have hq : ((a.toNat : Int) == 0) = true := by rw [h1]; rfl
    clear hb hx hr h1 hxs
    go_enter Try.func37, Try.ntmps37
    go_wp2_with fail
    refine hp.mono ?_
    rintro e w' ⟨s', rfl, hs', hb'⟩
    go_wp2_with fail
    go_ret2
    exact ⟨s', rfl, hs', hb'⟩
  by_cases h2 : a = 1
  · have hr : Pr.op s.data.toList = Pr.opC (s.data.toList.drop 1) := by
      rw [hb, h2]; exact Pr.op_one _
    rw [← hx] at hr
    have hp := ocoded_any (s.extract 1 s.size) w hxs _ hr.symm
    generalize Pr.op s.data.toList = O at *
    have hq : ((a.toNat : Int) == 0) = false := by rw [h2]; rfl
    have hq2 : ((a.toNat : Int) == 1) = true := by rw [h2]; rfl
    clear hb hx hr h1 h2 hxs
    go_enter Try.func37, Try.ntmps37
    go_wp2_with fail
    refine hp.mono ?_
    rintro e w' ⟨s', rfl, hs', hb'⟩
    go_wp2_with fail
    go_ret2
    exact ⟨s', rfl, hs', hb'⟩
  have hr : Pr.op s.data.toList = ([], 5) := by
    rw [hb]
    show (if a = 0 then _ else if a = 1 then _ else _) = _
    rw [if_neg h1, if_neg h2]
  rw [hr]
  have hq : ((a.toNat : Int) == 0) = false := by rw [beq_eq_false_iff_ne]; intro e; exact h1 (UInt8.toNat_inj.1 (by show a.toNat = 0; omega))
  have hq2 : ((a.toNat : Int) == 1) = false := by rw [beq_eq_false_iff_ne]; intro e; exact h2 (UInt8.toNat_inj.1 (by show a.toNat = 1; omega))
  clear hb hx hr h1 h2 hxs
  go_enter Try.func37, Try.ntmps37
  go_wp2_with fail
  go_ret2
  exact ⟨⟨#[]⟩, rfl, rfl, Below.refl _ _⟩
end Go.Proofs.Ytkhejelmjkpgfaa

namespace Go.Proofs.Ytkhejelmjkpgfaa
open Go.RowKit
set_option maxRecDepth 4000
set_option linter.unusedVariables false

set_option maxHeartbeats 2000000 in
theorem one_bad1 (b0 b1 b2 b3 b4 b5 b6 b7 : UInt8) (kd p q : Int) (s : ByteArray) (w : World) (hs : s.size ≤ 140737488351232) (h1 : p < 0) :
    Calls Try.prog 16 #[.string s, .agg #[.int .u8 (b0.toNat : Int), .int .u8 (b1.toNat : Int), .int .u8 (b2.toNat : Int), .int .u8 (b3.toNat : Int), .int .u8 (b4.toNat : Int), .int .u8 (b5.toNat : Int), .int .u8 (b6.toNat : Int), .int .u8 (b7.toNat : Int), .int .i64 kd, .int .i64 p, .int .i64 q]] w fun e w' => e = .returned (.tuple #[.agg #[.int .i64 0, .string ⟨#[]⟩], .int .i64 1]) ∧ Below w.heap.size w w' := by
  have HB : Hid (∀ o1 o2, Below w.heap.size w ((w.alloc o1).alloc o2)) := fun o1 o2 => ((Below.refl _ w).alloc (Nat.le_refl _) _).alloc (by simp) _
  go_enter Try.func16, Try.ntmps16
  go_wp2_with fail
  refine bodyPost_ret (v := .tuple #[.agg #[.int .i64 0, .string ⟨#[]⟩], .int .i64 1]) ?_ rfl ⟨rfl, HB.out _ _⟩
  have hres : Try.f16.results = #[.cell 4 24, .tmp 5] := by kernel_rfl
  simp only [results, hres]
  go_simp

set_option maxHeartbeats 2000000 in
theorem one_bad2 (b0 b1 b2 b3 b4 b5 b6 b7 : UInt8) (kd p q : Int) (s : ByteArray) (w : World) (hs : s.size ≤ 140737488351232) (h1 : 0 ≤ p) (h2 : q < 0) :
    Calls Try.prog 16 #[.string s, .agg #[.int .u8 (b0.toNat : Int), .int .u8 (b1.toNat : Int), .int .u8 (b2.toNat : Int), .int .u8 (b3.toNat : Int), .int .u8 (b4.toNat : Int), .int .u8 (b5.toNat : Int), .int .u8 (b6.toNat : Int), .int .u8 (b7.toNat : Int), .int .i64 kd, .int .i64 p, .int .i64 q]] w fun e w' => e = .returned (.tuple #[.agg #[.int .i64 0, .string ⟨#[]⟩], .int .i64 1]) ∧ Below w.heap.size w w' := by
  have HB : Hid (∀ o1 o2, Below w.heap.size w ((w.alloc o1).alloc o2)) := fun o1 o2 => ((Below.refl _ w).alloc (Nat.le_refl _) _).alloc (by simp) _
  go_enter Try.func16, Try.ntmps16
  go_wp2_with fail
  refine bodyPost_ret (v := .tuple #[.agg #[.int .i64 0, .string ⟨#[]⟩], .int .i64 1]) ?_ rfl ⟨rfl, HB.out _ _⟩
  have hres : Try.f16.results = #[.cell 4 24, .tmp 5] := by kernel_rfl
  simp only [results, hres]
  go_simp

set_option maxHeartbeats 2000000 in
theorem one_bad3 (b0 b1 b2 b3 b4 b5 b6 b7 : UInt8) (kd p q : Int) (s : ByteArray) (w : World) (hs : s.size ≤ 140737488351232) (h1 : 0 ≤ p) (h2 : 0 ≤ q) (h3 : (s.size : Int) < p) :
    Calls Try.prog 16 #[.string s, .agg #[.int .u8 (b0.toNat : Int), .int .u8 (b1.toNat : Int), .int .u8 (b2.toNat : Int), .int .u8 (b3.toNat : Int), .int .u8 (b4.toNat : Int), .int .u8 (b5.toNat : Int), .int .u8 (b6.toNat : Int), .int .u8 (b7.toNat : Int), .int .i64 kd, .int .i64 p, .int .i64 q]] w fun e w' => e = .returned (.tuple #[.agg #[.int .i64 0, .string ⟨#[]⟩], .int .i64 1]) ∧ Below w.heap.size w w' := by
  have HB : Hid (∀ o1 o2, Below w.heap.size w ((w.alloc o1).alloc o2)) := fun o1 o2 => ((Below.refl _ w).alloc (Nat.le_refl _) _).alloc (by simp) _
  go_enter Try.func16, Try.ntmps16
  go_wp2_with fail
  refine bodyPost_ret (v := .tuple #[.agg #[.int .i64 0, .string ⟨#[]⟩], .int .i64 1]) ?_ rfl ⟨rfl, HB.out _ _⟩
  have hres : Try.f16.results = #[.cell 4 24, .tmp 5] := by kernel_rfl
  simp only [results, hres]
  go_simp

set_option maxHeartbeats 2000000 in
theorem one_bad4 (b0 b1 b2 b3 b4 b5 b6 b7 : UInt8) (kd p q : Int) (s : ByteArray) (w : World) (hs : s.size ≤ 140737488351232) (h1 : 0 ≤ p) (h2 : 0 ≤ q) (h3 : p ≤ (s.size : Int)) (h4 : (s.size : Int) - p < q) :
    Calls Try.prog 16 #[.string s, .agg #[.int .u8 (b0.toNat : Int), .int .u8 (b1.toNat : Int), .int .u8 (b2.toNat : Int), .int .u8 (b3.toNat : Int), .int .u8 (b4.toNat : Int), .int .u8 (b5.toNat : Int), .int .u8 (b6.toNat : Int), .int .u8 (b7.toNat : Int), .int .i64 kd, .int .i64 p, .int .i64 q]] w fun e w' => e = .returned (.tuple #[.agg #[.int .i64 0, .string ⟨#[]⟩], .int .i64 1]) ∧ Below w.heap.size w w' := by
  have HB : Hid (∀ o1 o2, Below w.heap.size w ((w.alloc o1).alloc o2)) := fun o1 o2 => ((Below.refl _ w).alloc (Nat.le_refl _) _).alloc (by simp) _
  go_enter Try.func16, Try.ntmps16
  go_wp2_with fail
  refine bodyPost_ret (v := .tuple #[.agg #[.int .i64 0, .string ⟨#[]⟩], .int .i64 1]) ?_ rfl ⟨rfl, HB.out _ _⟩
  have hres : Try.f16.results = #[.cell 4 24, .tmp 5] := by kernel_rfl
  simp only [results, hres]
  go_simp

set_option maxHeartbeats 4000000 in
theorem one_kind (b0 b1 b2 b3 b4 b5 b6 b7 : UInt8) (kd : Int) (p q r : Nat) (s : ByteArray) (w : World) (hs : s.size ≤ 140737488351232) (hpr : p ≤ r) (hr : r ≤ s.size) (hq : q ≤ s.size) (i1 : (p : Int) + (q : Int) = (r : Int)) (h4 : (q : Int) ≤ (s.size : Int) - (p : Int)) (hk : kB kd = false) :
    Calls Try.prog 16 #[.string s, .agg #[.int .u8 (b0.toNat : Int), .int .u8 (b1.toNat : Int), .int .u8 (b2.toNat : Int), .int .u8 (b3.toNat : Int), .int .u8 (b4.toNat : Int), .int .u8 (b5.toNat : Int), .int .u8 (b6.toNat : Int), .int .u8 (b7.toNat : Int), .int .i64 kd, .int .i64 (p : Int), .int .i64 (q : Int)]] w fun e w' => e = .returned (.tuple #[.agg #[.int .i64 0, .string ⟨#[]⟩], .int .i64 5]) ∧ Below w.heap.size w w' := by
  obtain ⟨W2, hW2⟩ : ∃ W2, W2 = (w.alloc (.cells #[.int .u8 (b0.toNat : Int), .int .u8 (b1.toNat : Int), .int .u8 (b2.toNat : Int), .int .u8 (b3.toNat : Int), .int .u8 (b4.toNat : Int), .int .u8 (b5.toNat : Int), .int .u8 (b6.toNat : Int), .int .u8 (b7.toNat : Int), .int .i64 kd, .int .i64 (p : Int), .int .i64 (q : Int)] 38)).alloc (.cells #[.int .i64 0, .string ⟨#[]⟩] 24) := ⟨_, rfl⟩
  have hsz : W2.heap.size = w.heap.size + 2 := by rw [hW2]; simp
  have hX : Cz W2 w.heap.size (#[.int .u8 (b0.toNat : Int), .int .u8 (b1.toNat : Int), .int .u8 (b2.toNat : Int), .int .u8 (b3.toNat : Int), .int .u8 (b4.toNat : Int), .int .u8 (b5.toNat : Int), .int .u8 (b6.toNat : Int), .int .u8 (b7.toNat : Int), .int .i64 kd, .int .i64 (p : Int), .int .i64 (q : Int)] : Array Value).toList := by rw [hW2]; exact (Cz.new w #[.int .u8 (b0.toNat : Int), .int .u8 (b1.toNat : Int), .int .u8 (b2.toNat : Int), .int .u8 (b3.toNat : Int), .int .u8 (b4.toNat : Int), .int .u8 (b5.toNat : Int), .int .u8 (b6.toNat : Int), .int .u8 (b7.toNat : Int), .int .i64 kd, .int .i64 (p : Int), .int .i64 (q : Int)] 38).below ((Below.refl _ _).alloc (Nat.le_refl _) _) (by simp)
  have hR : Cz W2 (w.heap.size + 1) (#[.int .i64 0, .string ⟨#[]⟩] : Array Value).toList := by
    rw [hW2]
    have := Cz.new (w.alloc (.cells #[.int .u8 (b0.toNat : Int), .int .u8 (b1.toNat : Int), .int .u8 (b2.toNat : Int), .int .u8 (b3.toNat : Int), .int .u8 (b4.toNat : Int), .int .u8 (b5.toNat : Int), .int .u8 (b6.toNat : Int), .int .u8 (b7.toNat : Int), .int .i64 kd, .int .i64 (p : Int), .int .i64 (q : Int)] 38)) #[.int .i64 0, .string ⟨#[]⟩] 24
    rwa [World.size_alloc] at this
  have hB2 : Below w.heap.size w W2 := by rw [hW2]; exact ((Below.refl _ w).alloc (Nat.le_refl _) _).alloc (by simp) _
  have n0 : ¬ (p : Int) < 0 := by omega
  have n1 : ¬ (q : Int) < 0 := by omega
  have n2 : ¬ (s.size : Int) < (p : Int) := by omega
  have hisk := fun W => isKind_any kd W
  rw [hk] at hisk
  have e0 := hX.at_ 0 _ rfl
  have e1 := hX.at_ 1 _ rfl
  have e2 := hX.at_ 2 _ rfl
  have e3 := hX.at_ 3 _ rfl
  have e4 := hX.at_ 4 _ rfl
  have e5 := hX.at_ 5 _ rfl
  have e6 := hX.at_ 6 _ rfl
  have e7 := hX.at_ 7 _ rfl
  have e8 := hX.at_ 8 _ rfl
  have e9 := hX.at_ 9 _ rfl
  have e10 := hX.at_ 10 _ rfl
  have r0 := hR.at_ 0 _ rfl
  have r1 := hR.at_ 1 _ rfl
  have f0 := hR.fz 0
  have f1 := hR.fz 1
  have HB : Hid (Below w.heap.size w ((W2.setCell ⟨w.heap.size + 1, 0, none⟩ (.int .i64 0)).setCell ⟨w.heap.size + 1, 1, none⟩ (.string ⟨#[]⟩))) := (hB2.setCell (by simp) _).setCell (by simp) _
  clear hX hR hB2 hk hsz
  go_enter Try.func16, Try.ntmps16
  go_upto_region 1 with fail
  rw [← hW2]
  clear hW2
  go_wp2_with fail
  refine (hisk _).mono ?_
  rintro e u ⟨rfl, hu⟩
  obtain rfl := hu.symm
  clear hu hisk
  go_wp2_with fail
  refine bodyPost_ret (v := .tuple #[.agg #[.int .i64 0, .string ⟨#[]⟩], .int .i64 5]) ?_ rfl ⟨rfl, HB.out⟩
  have hres : Try.f16.results = #[.cell 4 24, .tmp 5] := by kernel_rfl
  simp only [results, hres]
  go_simp
set_option maxHeartbeats 4000000 in
theorem one_open (b0 b1 b2 b3 b4 b5 b6 b7 : UInt8) (kd : Int) (p q r : Nat) (s : ByteArray) (w : World) (hs : s.size ≤ 140737488351232) (hpr : p ≤ r) (hr : r ≤ s.size) (hq : q ≤ s.size) (i1 : (p : Int) + (q : Int) = (r : Int)) (h4 : (q : Int) ≤ (s.size : Int) - (p : Int)) (er : Int) (hk : kB kd = true) (her : er ≠ 0)
    (hop : ∀ W, Calls Try.prog 37 #[.string (s.extract p r)] W fun e w' => ∃ s' : ByteArray, e = .returned (.tuple #[.string s', .int .i64 er]) ∧ Below W.heap.size W w') :
    Calls Try.prog 16 #[.string s, .agg #[.int .u8 (b0.toNat : Int), .int .u8 (b1.toNat : Int), .int .u8 (b2.toNat : Int), .int .u8 (b3.toNat : Int), .int .u8 (b4.toNat : Int), .int .u8 (b5.toNat : Int), .int .u8 (b6.toNat : Int), .int .u8 (b7.toNat : Int), .int .i64 kd, .int .i64 (p : Int), .int .i64 (q : Int)]] w fun e w' => e = .returned (.tuple #[.agg #[.int .i64 0, .string ⟨#[]⟩], .int .i64 er]) ∧ Below w.heap.size w w' := by
  obtain ⟨W2, hW2⟩ : ∃ W2, W2 = (w.alloc (.cells #[.int .u8 (b0.toNat : Int), .int .u8 (b1.toNat : Int), .int .u8 (b2.toNat : Int), .int .u8 (b3.toNat : Int), .int .u8 (b4.toNat : Int), .int .u8 (b5.toNat : Int), .int .u8 (b6.toNat : Int), .int .u8 (b7.toNat : Int), .int .i64 kd, .int .i64 (p : Int), .int .i64 (q : Int)] 38)).alloc (.cells #[.int .i64 0, .string ⟨#[]⟩] 24) := ⟨_, rfl⟩
  have hsz : W2.heap.size = w.heap.size + 2 := by rw [hW2]; simp
  have hX : Cz W2 w.heap.size (#[.int .u8 (b0.toNat : Int), .int .u8 (b1.toNat : Int), .int .u8 (b2.toNat : Int), .int .u8 (b3.toNat : Int), .int .u8 (b4.toNat : Int), .int .u8 (b5.toNat : Int), .int .u8 (b6.toNat : Int), .int .u8 (b7.toNat : Int), .int .i64 kd, .int .i64 (p : Int), .int .i64 (q : Int)] : Array Value).toList := by rw [hW2]; exact (Cz.new w #[.int .u8 (b0.toNat : Int), .int .u8 (b1.toNat : Int), .int .u8 (b2.toNat : Int), .int .u8 (b3.toNat : Int), .int .u8 (b4.toNat : Int), .int .u8 (b5.toNat : Int), .int .u8 (b6.toNat : Int), .int .u8 (b7.toNat : Int), .int .i64 kd, .int .i64 (p : Int), .int .i64 (q : Int)] 38).below ((Below.refl _ _).alloc (Nat.le_refl _) _) (by simp)
  have hR : Cz W2 (w.heap.size + 1) (#[.int .i64 0, .string ⟨#[]⟩] : Array Value).toList := by
    rw [hW2]
    have := Cz.new (w.alloc (.cells #[.int .u8 (b0.toNat : Int), .int .u8 (b1.toNat : Int), .int .u8 (b2.toNat : Int), .int .u8 (b3.toNat : Int), .int .u8 (b4.toNat : Int), .int .u8 (b5.toNat : Int), .int .u8 (b6.toNat : Int), .int .u8 (b7.toNat : Int), .int .i64 kd, .int .i64 (p : Int), .int .i64 (q : Int)] 38)) #[.int .i64 0, .string ⟨#[]⟩] 24
    rwa [World.size_alloc] at this
  have hB2 : Below w.heap.size w W2 := by rw [hW2]; exact ((Below.refl _ w).alloc (Nat.le_refl _) _).alloc (by simp) _
  have n0 : ¬ (p : Int) < 0 := by omega
  have n1 : ¬ (q : Int) < 0 := by omega
  have n2 : ¬ (s.size : Int) < (p : Int) := by omega
  have hisk := fun W => isKind_any kd W
  rw [hk] at hisk
  have her2 : (er == 0) = false := beq_eq_false_iff_ne.2 her
  have e0 := hX.at_ 0 _ rfl
  have e1 := hX.at_ 1 _ rfl
  have e2 := hX.at_ 2 _ rfl
  have e3 := hX.at_ 3 _ rfl
  have e4 := hX.at_ 4 _ rfl
  have e5 := hX.at_ 5 _ rfl
  have e6 := hX.at_ 6 _ rfl
  have e7 := hX.at_ 7 _ rfl
  have e8 := hX.at_ 8 _ rfl
  have e9 := hX.at_ 9 _ rfl
  have e10 := hX.at_ 10 _ rfl
  clear hX hk her
  go_enter Try.func16, Try.ntmps16
  go_upto_region 1 with fail
  rw [← hW2]
  clear hW2
  go_wp2_with fail
  refine (hisk _).mono ?_
  rintro e u ⟨rfl, hu⟩
  obtain rfl := hu.symm
  clear hu hisk
  go_wp2_with fail
  refine (hop _).mono ?_
  rintro e w3 ⟨s', rfl, hb3⟩
  have hR3 := hR.below hb3 hR.lt
  have r0 := hR3.at_ 0 _ rfl
  have r1 := hR3.at_ 1 _ rfl
  have f0 := hR3.fz 0
  have f1 := hR3.fz 1
  have HB : Hid (Below w.heap.size w ((w3.setCell ⟨w.heap.size + 1, 0, none⟩ (.int .i64 0)).setCell ⟨w.heap.size + 1, 1, none⟩ (.string ⟨#[]⟩))) := ((hB2.trans (hb3.mono (by omega))).setCell (by simp) _).setCell (by simp) _
  clear hR hR3 hB2 hb3 hop hsz
  go_wp2_with fail
  refine bodyPost_ret (v := .tuple #[.agg #[.int .i64 0, .string ⟨#[]⟩], .int .i64 er]) ?_ rfl ⟨rfl, HB.out⟩
  have hres : Try.f16.results = #[.cell 4 24, .tmp 5] := by kernel_rfl
  simp only [results, hres]
  go_simp
set_option maxHeartbeats 4000000 in
theorem one_ok (b0 b1 b2 b3 b4 b5 b6 b7 : UInt8) (kd : Int) (p q r : Nat) (s : ByteArray) (w : World) (hs : s.size ≤ 140737488351232) (hpr : p ≤ r) (hr : r ≤ s.size) (hq : q ≤ s.size) (i1 : (p : Int) + (q : Int) = (r : Int)) (h4 : (q : Int) ≤ (s.size : Int) - (p : Int)) (y0 y1 y2 y3 y4 y5 y6 y7 : UInt8) (t : ByteArray) (ie : Int) (same : Bool) (hk : kB kd = true)
    (hop : ∀ W, Calls Try.prog 37 #[.string (s.extract p r)] W fun e w' => e = .returned (.tuple #[.string t, .int .i64 0]) ∧ Below W.heap.size W w')
    (hid : ∀ W, Calls Try.prog 9 #[.agg #[.int .i64 kd, .string t]] W fun e w' => e = .returned (.tuple #[.agg #[.int .u8 (y0.toNat : Int), .int .u8 (y1.toNat : Int), .int .u8 (y2.toNat : Int), .int .u8 (y3.toNat : Int), .int .u8 (y4.toNat : Int), .int .u8 (y5.toNat : Int), .int .u8 (y6.toNat : Int), .int .u8 (y7.toNat : Int)], .int .i64 ie]) ∧ Below W.heap.size W w')
    (heq : ∀ W, (Op.equalIn 10000 26 (.agg #[.int .u8 (y0.toNat : Int), .int .u8 (y1.toNat : Int), .int .u8 (y2.toNat : Int), .int .u8 (y3.toNat : Int), .int .u8 (y4.toNat : Int), .int .u8 (y5.toNat : Int), .int .u8 (y6.toNat : Int), .int .u8 (y7.toNat : Int)]) (.agg #[.int .u8 (b0.toNat : Int), .int .u8 (b1.toNat : Int), .int .u8 (b2.toNat : Int), .int .u8 (b3.toNat : Int), .int .u8 (b4.toNat : Int), .int .u8 (b5.toNat : Int), .int .u8 (b6.toNat : Int), .int .u8 (b7.toNat : Int)])).run Try.prog W = .ok same W) :
    Calls Try.prog 16 #[.string s, .agg #[.int .u8 (b0.toNat : Int), .int .u8 (b1.toNat : Int), .int .u8 (b2.toNat : Int), .int .u8 (b3.toNat : Int), .int .u8 (b4.toNat : Int), .int .u8 (b5.toNat : Int), .int .u8 (b6.toNat : Int), .int .u8 (b7.toNat : Int), .int .i64 kd, .int .i64 (p : Int), .int .i64 (q : Int)]] w fun e w' => e = .returned (if same then .tuple #[.agg #[.int .i64 kd, .string t], .int .i64 0] else .tuple #[.agg #[.int .i64 0, .string ⟨#[]⟩], .int .i64 6]) ∧ Below w.heap.size w w' := by
  obtain ⟨W2, hW2⟩ : ∃ W2, W2 = (w.alloc (.cells #[.int .u8 (b0.toNat : Int), .int .u8 (b1.toNat : Int), .int .u8 (b2.toNat : Int), .int .u8 (b3.toNat : Int), .int .u8 (b4.toNat : Int), .int .u8 (b5.toNat : Int), .int .u8 (b6.toNat : Int), .int .u8 (b7.toNat : Int), .int .i64 kd, .int .i64 (p : Int), .int .i64 (q : Int)] 38)).alloc (.cells #[.int .i64 0, .string ⟨#[]⟩] 24) := ⟨_, rfl⟩
  have hsz : W2.heap.size = w.heap.size + 2 := by rw [hW2]; simp
  have hX : Cz W2 w.heap.size (#[.int .u8 (b0.toNat : Int), .int .u8 (b1.toNat : Int), .int .u8 (b2.toNat : Int), .int .u8 (b3.toNat : Int), .int .u8 (b4.toNat : Int), .int .u8 (b5.toNat : Int), .int .u8 (b6.toNat : Int), .int .u8 (b7.toNat : Int), .int .i64 kd, .int .i64 (p : Int), .int .i64 (q : Int)] : Array Value).toList := by rw [hW2]; exact (Cz.new w #[.int .u8 (b0.toNat : Int), .int .u8 (b1.toNat : Int), .int .u8 (b2.toNat : Int), .int .u8 (b3.toNat : Int), .int .u8 (b4.toNat : Int), .int .u8 (b5.toNat : Int), .int .u8 (b6.toNat : Int), .int .u8 (b7.toNat : Int), .int .i64 kd, .int .i64 (p : Int), .int .i64 (q : Int)] 38).below ((Below.refl _ _).alloc (Nat.le_refl _) _) (by simp)
  have hR : Cz W2 (w.heap.size + 1) (#[.int .i64 0, .string ⟨#[]⟩] : Array Value).toList := by
    rw [hW2]
    have := Cz.new (w.alloc (.cells #[.int .u8 (b0.toNat : Int), .int .u8 (b1.toNat : Int), .int .u8 (b2.toNat : Int), .int .u8 (b3.toNat : Int), .int .u8 (b4.toNat : Int), .int .u8 (b5.toNat : Int), .int .u8 (b6.toNat : Int), .int .u8 (b7.toNat : Int), .int .i64 kd, .int .i64 (p : Int), .int .i64 (q : Int)] 38)) #[.int .i64 0, .string ⟨#[]⟩] 24
    rwa [World.size_alloc] at this
  have hB2 : Below w.heap.size w W2 := by rw [hW2]; exact ((Below.refl _ w).alloc (Nat.le_refl _) _).alloc (by simp) _
  have n0 : ¬ (p : Int) < 0 := by omega
  have n1 : ¬ (q : Int) < 0 := by omega
  have n2 : ¬ (s.size : Int) < (p : Int) := by omega
  have hisk := fun W => isKind_any kd W
  rw [hk] at hisk
  have e0 := hX.at_ 0 _ rfl
  have e1 := hX.at_ 1 _ rfl
  have e2 := hX.at_ 2 _ rfl
  have e3 := hX.at_ 3 _ rfl
  have e4 := hX.at_ 4 _ rfl
  have e5 := hX.at_ 5 _ rfl
  have e6 := hX.at_ 6 _ rfl
  have e7 := hX.at_ 7 _ rfl
  have e8 := hX.at_ 8 _ rfl
  have e9 := hX.at_ 9 _ rfl
  have e10 := hX.at_ 10 _ rfl
  clear hk
  obtain ⟨RS, hRS⟩ : ∃ RS, (if same then Value.tuple #[.agg #[.int .i64 kd, .string t], .int .i64 0] else .tuple #[.agg #[.int .i64 0, .string ⟨#[]⟩], .int .i64 6]) = RS := ⟨_, rfl⟩
  rw [hRS]
  have HRS : Hid ((if same then Value.tuple #[.agg #[.int .i64 kd, .string t], .int .i64 0] else .tuple #[.agg #[.int .i64 0, .string ⟨#[]⟩], .int .i64 6]) = RS) := hRS
  clear hRS
  go_enter Try.func16, Try.ntmps16
  go_upto_region 1 with fail
  rw [← hW2]
  clear hW2
  go_wp2_with fail
  refine (hisk _).mono ?_
  rintro e u ⟨rfl, hu⟩
  obtain rfl := hu.symm
  clear hu hisk
  go_wp2_with fail
  refine (hop _).mono ?_
  rintro e w3 ⟨rfl, hb3⟩
  have hX3 := hX.below hb3 hX.lt
  have hR3 := hR.below hb3 hR.lt
  have g8 := hX3.at_ 8 _ rfl
  have HB3 : Hid (Below w.heap.size w w3) := hB2.trans (hb3.mono (by omega))
  have hs3 : w.heap.size + 2 ≤ w3.heap.size := by have := hb3.size; omega
  clear hX hR hB2 hb3 hop hsz e0 e1 e2 e3 e4 e5 e6 e7 e8 e9 e10
  go_wp2_with fail
  refine (hid _).mono ?_
  rintro e w4 ⟨rfl, hb4⟩
  have hb4' := below_past hb4
  have hX4 := hX3.below hb4' hX3.lt
  have hR4 := hR3.below hb4' hR3.lt
  have hT4 := (Cz.new w3 #[.int .i64 kd, .string t] 24).below hb4 (by simp)
  have HB4 : Hid (Below w.heap.size w w4) := HB3.out.trans (hb4'.mono HB3.out.size)
  have hs4 : w3.heap.size + 1 ≤ w4.heap.size := by have := hb4.size; simp at this; omega
  have hA : Below w4.heap.size w4 (w4.alloc (.cells #[.int .u8 (y0.toNat : Int), .int .u8 (y1.toNat : Int), .int .u8 (y2.toNat : Int), .int .u8 (y3.toNat : Int), .int .u8 (y4.toNat : Int), .int .u8 (y5.toNat : Int), .int .u8 (y6.toNat : Int), .int .u8 (y7.toNat : Int)] 26)) := (Below.refl _ w4).alloc (Nat.le_refl _) _
  have hR5 := hR4.below hA hR4.lt
  have hT5 := hT4.below hA hT4.lt
  have e0 := (hX4.below hA hX4.lt).at_ 0 _ rfl
  have e1 := (hX4.below hA hX4.lt).at_ 1 _ rfl
  have e2 := (hX4.below hA hX4.lt).at_ 2 _ rfl
  have e3 := (hX4.below hA hX4.lt).at_ 3 _ rfl
  have e4 := (hX4.below hA hX4.lt).at_ 4 _ rfl
  have e5 := (hX4.below hA hX4.lt).at_ 5 _ rfl
  have e6 := (hX4.below hA hX4.lt).at_ 6 _ rfl
  have e7 := (hX4.below hA hX4.lt).at_ 7 _ rfl
  have t0 := hT5.at_ 0 _ rfl
  have t1 := hT5.at_ 1 _ rfl
  have r0 := hR5.at_ 0 _ rfl
  have r1 := hR5.at_ 1 _ rfl
  have f0 := hR5.fz 0
  have f1 := hR5.fz 1
  have HB5 : Hid (∀ x y, Below w.heap.size w (((w4.alloc (.cells #[.int .u8 (y0.toNat : Int), .int .u8 (y1.toNat : Int), .int .u8 (y2.toNat : Int), .int .u8 (y3.toNat : Int), .int .u8 (y4.toNat : Int), .int .u8 (y5.toNat : Int), .int .u8 (y6.toNat : Int), .int .u8 (y7.toNat : Int)] 26)).setCell ⟨w.heap.size + 1, 0, none⟩ x).setCell ⟨w.heap.size + 1, 1, none⟩ y)) := fun x y => ((HB4.out.trans (hA.mono HB4.out.size)).setCell (by simp) _).setCell (by simp) _
  have hpp : w.heap.size < w4.heap.size := by omega
  clear hX3 hX4 hR3 hR4 hR5 hT4 hT5 hb4 hb4' hid hA g8
  cases same with
  | true =>
    rw [if_pos rfl] at HRS
    go_wp2_with fail
    refine bodyPost_ret (v := .tuple #[.agg #[.int .i64 kd, .string t], .int .i64 0]) ?_ rfl ⟨by rw [← HRS.out], HB5.out _ _⟩
    have hres : Try.f16.results = #[.cell 4 24, .tmp 5] := by kernel_rfl
    simp only [results, hres]
    go_simp
  | false =>
    rw [if_neg (by decide)] at HRS
    go_wp2_with fail
    refine bodyPost_ret (v := .tuple #[.agg #[.int .i64 0, .string ⟨#[]⟩], .int .i64 6]) ?_ rfl ⟨by rw [← HRS.out], HB5.out _ _⟩
    have hres : Try.f16.results = #[.cell 4 24, .tmp 5] := by kernel_rfl
    simp only [results, hres]
    go_simp

theorem one_eq (op : List UInt8 → List UInt8 × Int) (s id : List UInt8) (kd p q : Int) : Pk.one op s ⟨id, kd, p, q⟩ = if p < 0 ∨ q < 0 ∨ (s.length : Int) < q ∨ (s.length : Int) - q < p then ((0, []), 1) else if ¬ (kd = 1 ∨ kd = 2 ∨ kd = 3) then ((0, []), 5) else
    if (op ((s.drop p.toNat).take q.toNat)).2 ≠ 0 then ((0, []), (op ((s.drop p.toNat).take q.toNat)).2) else if Pk.idB kd (op ((s.drop p.toNat).take q.toNat)).1 ≠ id then ((0, []), 6) else ((kd, (op ((s.drop p.toNat).take q.toNat)).1), 0) := rfl
theorem one_data (s : ByteArray) (p r : Nat) : (s.extract p r).data.toList = (s.data.toList.drop p).take (r - p) := Lib.extract_data s p r
theorem idOr_of {k : Int} {t : ByteArray} (hk : kB k = true) (ht : t.size ≤ 4096) : idOr ⟨k, t⟩ = Pk.idB k t.data.toList := by
  have he : Pk.bErr (Blb.p ⟨k, t⟩) = 0 := by
    show (if k = 1 ∨ k = 2 ∨ k = 3 then (if 4096 < t.data.toList.length then (2 : Int) else 0) else 5) = 0
    rw [if_pos (show k = 1 ∨ k = 2 ∨ k = 3 from kB_of.1 hk), if_neg (by rw [← Lib.size_eq]; omega)]
  rw [idOr, if_pos he]; rfl
/-- what One answers -/
theorem one_any (s : ByteArray) (x : Ent) (w : World) (hs : s.size ≤ 140737488351232) :
    Calls Try.prog 16 #[.string s, enV x] w fun e w' => ∃ b : Blb, e = .returned (.tuple #[blV b, .int .i64 (Pk.one Pr.op s.data.toList x.p).2]) ∧ b.p = (Pk.one Pr.op s.data.toList x.p).1 ∧ Below w.heap.size w w' := by
  obtain ⟨id, hid8, kd, p, q⟩ := x
  obtain ⟨b0, b1, b2, b3, b4, b5, b6, b7, rfl⟩ := eight id hid8
  have hsz : (s.data.toList.length : Int) = (s.size : Int) := by rw [← Lib.size_eq]
  show Calls _ _ #[.string s, .agg #[.int .u8 (b0.toNat : Int), .int .u8 (b1.toNat : Int), .int .u8 (b2.toNat : Int), .int .u8 (b3.toNat : Int), .int .u8 (b4.toNat : Int), .int .u8 (b5.toNat : Int), .int .u8 (b6.toNat : Int), .int .u8 (b7.toNat : Int), .int .i64 kd, .int .i64 p, .int .i64 q]] w _
  by_cases hbad : p < 0 ∨ q < 0 ∨ (s.data.toList.length : Int) < q ∨ (s.data.toList.length : Int) - q < p
  · have hr : Pk.one Pr.op s.data.toList (Ent.p ⟨[b0, b1, b2, b3, b4, b5, b6, b7], hid8, kd, p, q⟩) = ((0, []), 1) := by
      show Pk.one Pr.op s.data.toList ⟨_, kd, p, q⟩ = _
      rw [one_eq, if_pos hbad]
    rw [hr]
    rw [hsz] at hbad
    have fin : ∀ (e : Ending) (w' : World), (e = .returned (.tuple #[.agg #[.int .i64 0, .string ⟨#[]⟩], .int .i64 1]) ∧ Below w.heap.size w w') → ∃ b : Blb, e = .returned (.tuple #[blV b, .int .i64 1]) ∧ b.p = (0, []) ∧ Below w.heap.size w w' := fun e w' ⟨he, hb⟩ => ⟨⟨0, ⟨#[]⟩⟩, he, rfl, hb⟩
    by_cases h1 : p < 0
    · exact (one_bad1 b0 b1 b2 b3 b4 b5 b6 b7 kd p q s w hs h1).mono fin
    by_cases h2 : q < 0
    · exact (one_bad2 b0 b1 b2 b3 b4 b5 b6 b7 kd p q s w hs (by omega) h2).mono fin
    by_cases h3 : (s.size : Int) < p
    · exact (one_bad3 b0 b1 b2 b3 b4 b5 b6 b7 kd p q s w hs (by omega) (by omega) h3).mono fin
    · exact (one_bad4 b0 b1 b2 b3 b4 b5 b6 b7 kd p q s w hs (by omega) (by omega) (by omega) (by omega)).mono fin
  · rw [hsz] at hbad
    obtain ⟨P, rfl⟩ : ∃ P : Nat, p = (P : Int) := ⟨p.toNat, by omega⟩
    obtain ⟨Q, rfl⟩ : ∃ Q : Nat, q = (Q : Int) := ⟨q.toNat, by omega⟩
    have hPQ : P + Q ≤ s.size := by omega
    have hex : (s.extract P (P + Q)).data.toList = (s.data.toList.drop P).take Q := by rw [one_data, Nat.add_sub_cancel_left]
    by_cases hk : kB kd = true
    · have hop := fun W => open_any (s.extract P (P + Q)) W (by rw [ByteArray.size_extract]; omega)
      rw [hex] at hop
      by_cases her : (Pr.op ((s.data.toList.drop P).take Q)).2 ≠ 0
      · have hr : Pk.one Pr.op s.data.toList (Ent.p ⟨[b0, b1, b2, b3, b4, b5, b6, b7], hid8, kd, (P : Int), (Q : Int)⟩) = ((0, []), (Pr.op ((s.data.toList.drop P).take Q)).2) := by
          show Pk.one Pr.op s.data.toList ⟨_, kd, (P : Int), (Q : Int)⟩ = _
          rw [one_eq, if_neg (by rw [hsz]; exact hbad), if_neg (fun h => h (kB_of.1 hk)), Int.toNat_natCast, Int.toNat_natCast, if_pos her]
        rw [hr]
        exact (one_open b0 b1 b2 b3 b4 b5 b6 b7 kd P Q (P + Q) s w hs (by omega) hPQ (by omega) (by omega) (by omega) _ hk her fun W => (hop W).mono fun e w' ⟨s', h1, _, h3⟩ => ⟨s', h1, h3⟩).mono fun e w' ⟨he, hb⟩ => ⟨⟨0, ⟨#[]⟩⟩, he, rfl, hb⟩
      · have her0 := Classical.not_not.1 her
        have hfin : (Pr.op ((s.data.toList.drop P).take Q)).1.length ≤ 4096 := (Pr.op_fine _).1
        rw [her0] at hop
        obtain ⟨t, ht⟩ : ∃ t : ByteArray, t = ⟨(Pr.op ((s.data.toList.drop P).take Q)).1.toArray⟩ := ⟨_, rfl⟩
        have htd : t.data.toList = (Pr.op ((s.data.toList.drop P).take Q)).1 := by rw [ht]
        have hop' : ∀ W, Calls Try.prog 37 #[.string (s.extract P (P + Q))] W fun e w' => e = .returned (.tuple #[.string t, .int .i64 0]) ∧ Below W.heap.size W w' := fun W => (hop W).mono fun e w' ⟨s', h1, h2, h3⟩ => by
          obtain rfl : s' = t := by rw [ht, ← h2]
          exact ⟨h1, h3⟩
        have htz : t.size ≤ 4096 := by rw [Lib.size_eq, htd]; exact hfin
        have hio := idOr_of hk htz
        have hidc := fun W => pid_any ⟨kd, t⟩ W (by show t.size ≤ _; omega)
        rw [hio] at hidc
        obtain ⟨y0, y1, y2, y3, y4, y5, y6, y7, hy⟩ := eight (Pk.idB kd t.data.toList) (Pk.dg_length _)
        rw [hy] at hidc
        have hcall := one_ok b0 b1 b2 b3 b4 b5 b6 b7 kd P Q (P + Q) s w hs (by omega) hPQ (by omega) (by omega) (by omega) y0 y1 y2 y3 y4 y5 y6 y7 t _ _ hk hop' hidc (fun W => id_eq W [y0, y1, y2, y3, y4, y5, y6, y7] [b0, b1, b2, b3, b4, b5, b6, b7] rfl rfl)
        refine hcall.mono fun e w' ⟨he, hb⟩ => ?_
        have hone : Pk.one Pr.op s.data.toList (Ent.p ⟨[b0, b1, b2, b3, b4, b5, b6, b7], hid8, kd, (P : Int), (Q : Int)⟩) = if [y0, y1, y2, y3, y4, y5, y6, y7] ≠ [b0, b1, b2, b3, b4, b5, b6, b7] then ((0, []), 6) else ((kd, t.data.toList), 0) := by
          show Pk.one Pr.op s.data.toList ⟨_, kd, (P : Int), (Q : Int)⟩ = _
          rw [one_eq, if_neg (by rw [hsz]; exact hbad), if_neg (fun h => h (kB_of.1 hk)), Int.toNat_natCast, Int.toNat_natCast, if_neg her, ← htd, hy]
        rw [hone]
        by_cases hq : [y0, y1, y2, y3, y4, y5, y6, y7] = [b0, b1, b2, b3, b4, b5, b6, b7]
        · rw [if_neg (fun h => h hq)]
          rw [if_pos (beq_iff_eq.2 hq)] at he
          exact ⟨⟨kd, t⟩, he, rfl, hb⟩
        · rw [if_pos hq]
          rw [if_neg (fun h => hq (beq_iff_eq.1 h))] at he
          exact ⟨⟨0, ⟨#[]⟩⟩, he, rfl, hb⟩
    · have hr : Pk.one Pr.op s.data.toList (Ent.p ⟨[b0, b1, b2, b3, b4, b5, b6, b7], hid8, kd, (P : Int), (Q : Int)⟩) = ((0, []), 5) := by
        show Pk.one Pr.op s.data.toList ⟨_, kd, (P : Int), (Q : Int)⟩ = _
        rw [one_eq, if_neg (by rw [hsz]; exact hbad), if_pos (fun h : kd = 1 ∨ kd = 2 ∨ kd = 3 => hk (kB_of.2 h))]
      rw [hr]
      exact (one_kind b0 b1 b2 b3 b4 b5 b6 b7 kd P Q (P + Q) s w hs (by omega) hPQ (by omega) (by omega) (by omega) (by simpa using hk)).mono fun e w' ⟨he, hb⟩ => ⟨⟨0, ⟨#[]⟩⟩, he, rfl, hb⟩
end Go.Proofs.Ytkhejelmjkpgfaa

namespace Go.Proofs.Ytkhejelmjkpgfaa
open Go.RowKit
set_option maxRecDepth 4000

theorem tmod_bounds (a : Int) (n : Nat) (hn : 0 < n) : -(n : Int) < a.tmod n ∧ a.tmod n < n := by
  have h0 : (0 : Int) < n := by omega
  by_cases ha : 0 ≤ a
  · have h1 := Int.tmod_nonneg (n : Int) ha
    have h2 := Int.tmod_lt_of_pos a h0
    omega
  · have h1 := Int.tmod_nonneg (n : Int) (show 0 ≤ -a by omega)
    have h2 := Int.tmod_lt_of_pos (-a) h0
    rw [Int.neg_tmod] at h1 h2
    omega

set_option maxHeartbeats 400000 in
theorem rest_any (a : Int) (n : Nat) (w : World) (hn : 0 < n) (hb : n ≤ 1000000000000000) :
    Calls Try.prog 39 #[.int .i64 a, .int .i64 n] w fun e w' => (∃ r : Nat, r < n ∧ e = .returned (.int .i64 r)) ∧ w' = w := by
  obtain ⟨h1, h2⟩ := tmod_bounds a n hn
  have h3 : 0 ≤ a.tmod n + n := by omega
  have h4 := Int.emod_nonneg (a.tmod n + n) (show (n : Int) ≠ 0 by omega)
  have h5 := Int.emod_lt_of_pos (a.tmod n + n) (show (0 : Int) < n by omega)
  go_enter Try.func39, Try.ntmps39
  go_wp2_with fail
  go_ret
  exact ⟨⟨((a.tmod n + n) % n).toNat, by omega, ret_int (by omega)⟩, rfl⟩
end Go.Proofs.Ytkhejelmjkpgfaa
