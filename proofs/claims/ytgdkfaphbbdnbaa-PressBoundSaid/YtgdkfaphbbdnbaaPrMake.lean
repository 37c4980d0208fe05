/-
  What makeBook of package press answers.
-/
import Derived.Test.YtgdkfaphbbdnbaaPrSigns
import Derived.Deep.RegionLaw
import Derived.Deep.RegionHeld3
import Derived.Deep.AppendLies
namespace Go.Proofs.Ytgdkfaphbbdnbaa
open Go.RowKit
set_option maxRecDepth 4000

set_option maxHeartbeats 1000000 in
theorem make_form (v : Value) (l : List Nat) (w : World) (h : Ints w v (Hf.up l)) (h1 : 1 ≤ l.length) (h2 : l.length ≤ 256) (h3 : ∀ n ∈ l, n ≤ 48) (hk : 281474976710656 < Hf.ksum l) :
    Calls Try.prog 39 #[v] w fun e w' => e = .returned (.tuple #[.pointer none, .int .i64 4]) ∧ w' = w := by
  have hc := codes_form v l w h h1 h2 h3 hk
  clear h3 hk
  go_enter Try.func39, Try.ntmps39
  go_wp2_with fail
  refine hc.mono ?_
  rintro e w' ⟨rfl, rfl⟩
  go_wp2_with fail
  go_ret2
  exact ⟨rfl, rfl⟩

/-- a book with nothing in it -/
theorem zero_book : Try.zeroCells112 = (bookC (fun _ => 0) fun _ => .slice none 0 0).toArray := by kernel_rfl
theorem Book.new (w : World) (base : Nat) (l : List Nat) (hb : base ≤ w.heap.size) : Book (w.alloc (.cells Try.zeroCells112 112)) base w.heap.size l 0 (fun _ => .slice none 0 0) := by
  rw [zero_book]
  refine ⟨heap_alloc_new w _, hb, fun n _ => World.ownsRow_nil _ _ _ _, fun n m _ _ _ g hg => ?_⟩
  simp [Value.ownBlock] at hg
theorem BookF.congr {W : World} {base G : Nat} {f f' : Nat → Nat} {S S' : Nat → List Nat} {V : Nat → Value} (h : BookF W base G f S V) (hf : ∀ n, n ≤ 48 → f n = f' n) (hS : ∀ n, n ≤ 48 → S n = S' n) : BookF W base G f' S' V :=
  ⟨by rw [← bookC_congr (V := V) hf fun _ _ => rfl]; exact h.box, h.old, fun n hn => by rw [← hS n hn]; exact h.row n hn, h.apart⟩
theorem BookF.not_row {W : World} {base G : Nat} {f : Nat → Nat} {S : Nat → List Nat} {V : Nat → Value} (h : BookF W base G f S V) {b n k : Nat} {e : TypeId} {v : Value} {xs : List Value} (hr : W.ownsRow b e k v n xs) (he : e ≠ 112) : ∀ g, v.ownBlock = some g → g ≠ G := by
  intro g hg e'
  subst e'
  obtain ⟨cur, hc, _⟩ := own_block hr hg
  have := hc.symm.trans h.box
  simp at this
  exact he this.2
theorem BookF.drew {W : World} {base G : Nat} {f : Nat → Nat} {S : Nat → List Nat} {V : Nat → Value} (h : BookF W base G f S V) : BookF W.drew base G f S V :=
  ⟨h.box, h.old, fun n hn => (h.row n hn).drew, h.apart⟩
theorem BookF.first {w : World} {base G n x : Nat} {f : Nat → Nat} {S : Nat → List Nat} {V : Nat → Value} (h : BookF w base G f S V) :
    BookF (w.setCell ⟨G, n * 2, none⟩ (.int .i64 (x : Int))) base G (fun m => if m = n then x else f m) S V := by
  have hk : Kept (fun k => k ≠ G) w (w.setCell ⟨G, n * 2, none⟩ (.int .i64 (x : Int))) := (Kept.refl _ _).setCell (by simp) _
  refine ⟨?_, h.old, fun m hm => own_kept (h.row m hm) hk (h.not_row (h.row m hm) (by decide)), h.apart⟩
  rw [heap_setCell_same _ _ _ _ _ _ h.box, ← bookC_set0]
  simp
/-- one sign more on a shelf -/
theorem BookF.pushed {w w1 : World} {base G g cap n x : Nat} {f : Nat → Nat} {S : Nat → List Nat} {V : Nat → Value} {o : Obj} (h : BookF w base G f S V) (hn : n ≤ 48) (hx : x < 256)
    (hown : w1.ownsRow base 5 1 (.slice (some ⟨g, 0, none⟩) ((S n).length + 1) cap) ((S n).length + 1) ((Pr.upB (S n)).map B ++ [.int .u8 (x : Int)]))
    (hg : ((w.alloc o).drew).grownBy w1 (V n).ownBlock) (hat : (V n).ownBlock = some g ∨ g = w.heap.size + 1) :
    BookF (w1.setCell ⟨G, n * 2 + 1, none⟩ (.slice (some ⟨g, 0, none⟩) ((S n).length + 1) cap)) base G f (fun m => if m = n then S n ++ [x] else S m) (fun m => if m = n then .slice (some ⟨g, 0, none⟩) ((S n).length + 1) cap else V m) := by
  have hlt : G < w.heap.size := (Array.getElem?_eq_some_iff.1 h.box).1
  have hG1 : (V n).ownBlock ≠ some G := fun e => h.not_row (h.row n hn) (by decide) G e rfl
  have hbox : w1.heap[G]? = some (.cells (bookC f V).toArray 112 (0, 0)) := by
    rw [hg.block G (by simp; omega) (fun e => hG1 e.symm)]
    exact (((Below.refl w.heap.size w).alloc (Nat.le_refl _) o).drew).block G hlt |>.trans h.box
  have hk2 : Kept (fun k => k ≠ G) w1 (w1.setCell ⟨G, n * 2 + 1, none⟩ (.slice (some ⟨g, 0, none⟩) ((S n).length + 1) cap)) := (Kept.refl _ _).setCell (by simp) _
  have hk1 : Kept (fun k => (V n).ownBlock ≠ some k) w w1 := (((Kept.refl _ w).alloc o).drew).grown hg fun k hk hp => hp hk
  have hlt2 : ∀ m, m ≤ 48 → ∀ b, (V m).ownBlock = some b → b < w.heap.size := fun m hm b hb => by
    obtain ⟨cur, hc, _⟩ := own_block (h.row m hm) hb
    exact (Array.getElem?_eq_some_iff.1 hc).1
  have hgG : g ≠ G := by
    rcases hat with e | e
    · intro e'
      rw [e'] at e
      exact hG1 e
    · omega
  refine ⟨?_, h.old, fun m hm => ?_, fun a b ha hb hab q hq => ?_⟩
  · rw [heap_setCell_same _ _ _ _ _ _ hbox, ← bookC_set1]
    simp
  · by_cases e : m = n
    · subst e
      simp only [if_true]
      rw [show (S m ++ [x]).length = (Pr.upB (S m) ++ [UInt8.ofNat x]).length by rw [← up_more, upB_length], up_more]
      refine own_kept (own_byte ?_) hk2 fun b hb => by simp [Value.ownBlock] at hb; omega
      rw [UInt8.toNat_ofNat', Nat.mod_eq_of_lt hx, upB_length]
      exact hown
    · simp only [if_neg e]
      exact own_kept (own_kept (h.row m hm) hk1 fun b hb => h.apart m n hm hn e b hb) hk2 (h.not_row (h.row m hm) (by decide))
  · by_cases e1 : a = n
    · subst e1
      simp only [if_true] at hq
      rw [if_neg (Ne.symm hab)]
      obtain rfl : g = q := by simpa [Value.ownBlock] using hq
      rcases hat with e | e
      · exact h.apart a b ha hb hab g e
      · intro e'
        have := hlt2 b hb g e'
        omega
    · simp only [if_neg e1] at hq
      by_cases e2 : b = n
      · subst e2
        simp only [if_true]
        intro e'
        obtain rfl : g = q := by simpa [Value.ownBlock] using e'
        rcases hat with e | e
        · exact h.apart a b ha hb hab g hq e
        · have := hlt2 a ha g hq
          omega
      · simp only [if_neg e2]
        exact h.apart a b ha hb hab q hq

theorem one_at {W : World} {B : Nat} {x : Value} (h0 : W.cell? ⟨B, 0, none⟩ = some x) : ∀ j u, [x][j]? = some u → W.cell? ((⟨B, 0, none⟩ : Addr).add j) = some u := by
  intro j u hj
  rw [Addr.add_mid, Nat.zero_add]
  match j, hj with
  | 0, hj => rw [h0]; exact hj
/-- the sign k put into a book -/
theorem Book.push {wc w2 : World} {base G g cap n k L : Nat} {l : List Nat} {V : Nat → Value} {u : Value} {xs : List Value} {o : Obj} (h : BookF wc base G (fun m => if m = n then Pr.fst l n (k + 1) else Pr.fst l m k) (fun m => Pr.shelf l m k) V) (hn : n ≤ 48) (h0 : 0 < n) (hk : k < 256) (hln : l.getD k 0 = n)
    (hrow : wc.ownsRow base 3 1 u L xs) (hB : base ≤ wc.heap.size)
    (hown : w2.ownsRow base 5 1 (.slice (some ⟨g, 0, none⟩) ((Pr.shelf l n k).length + 1) cap) ((Pr.shelf l n k).length + 1) ((Pr.upB (Pr.shelf l n k)).map B ++ [.int .u8 (k : Int)]))
    (hg : ((wc.alloc o).drew).grownBy w2 (V n).ownBlock) (hat : (V n).ownBlock = some g ∨ g = wc.heap.size + 1) :
    (∃ V', Book (w2.setCell ⟨G, n * 2 + 1, none⟩ (.slice (some ⟨g, 0, none⟩) ((Pr.shelf l n k).length + 1) cap)) base G l (k + 1) V') ∧ (w2.setCell ⟨G, n * 2 + 1, none⟩ (.slice (some ⟨g, 0, none⟩) ((Pr.shelf l n k).length + 1) cap)).ownsRow base 3 1 u L xs ∧
    Below base wc (w2.setCell ⟨G, n * 2 + 1, none⟩ (.slice (some ⟨g, 0, none⟩) ((Pr.shelf l n k).length + 1) cap)) := by
  have hk1 : Kept (fun q => (V n).ownBlock ≠ some q ∧ q ≠ G) wc (w2.setCell ⟨G, n * 2 + 1, none⟩ (.slice (some ⟨g, 0, none⟩) ((Pr.shelf l n k).length + 1) cap)) := ((((Kept.refl _ wc).alloc o).drew).grown hg fun q hq hp => hp.1 hq).setCell (fun h => h.2 rfl) _
  refine ⟨⟨_, (h.pushed hn hk hown hg hat).congr (fun m hm => ?_) (fun m hm => ?_)⟩, ?_, ?_⟩
  · by_cases e : m = n
    · subst e; simp only [if_true]
    · simp only [if_neg e]
      exact (Pr.fst_miss (by omega)).symm
  · by_cases e : m = n
    · subst e; simp only [if_true]
      exact (Pr.shelf_hit h0 hln).symm
    · simp only [if_neg e]
      exact (Pr.shelf_miss (by omega)).symm
  · refine own_kept hrow hk1 fun q hq => ⟨fun e => ?_, h.not_row hrow (by decide) q hq⟩
    obtain ⟨cur, hc, _⟩ := own_block hrow hq
    obtain ⟨cur', hc', _⟩ := own_block (h.row n hn) e
    have := hc.symm.trans hc'
    simp at this
  · refine hk1.below hB fun q hq => ⟨fun e => ?_, ?_⟩
    · obtain ⟨_, _, hb⟩ := own_block (h.row n hn) e
      omega
    · have := h.old
      omega
theorem Book.grown_cell {wc w2 : World} {base G n : Nat} {f : Nat → Nat} {S : Nat → List Nat} {V : Nat → Value} {o : Obj} (h : BookF wc base G f S V) (hn : n ≤ 48) (hg : ((wc.alloc o).drew).grownBy w2 (V n).ownBlock) : w2.cell? ⟨G, n * 2 + 1, none⟩ = some (V n) ∧ w2.frozen? ⟨G, n * 2 + 1, none⟩ = false := by
  have hlt : G < wc.heap.size := (Array.getElem?_eq_some_iff.1 h.box).1
  have hG1 : (V n).ownBlock ≠ some G := fun e => h.not_row (h.row n hn) (by decide) G e rfl
  have hbox : w2.heap[G]? = some (.cells (bookC f V).toArray 112 (0, 0)) := by
    rw [hg.block G (by simp; omega) (fun e => hG1 e.symm)]
    exact (((Below.refl wc.heap.size wc).alloc (Nat.le_refl _) o).drew).block G hlt |>.trans h.box
  obtain ⟨b1, b2⟩ := row_cells hbox (n * 2 + 1) (by rw [bookC_length]; omega)
  exact ⟨b1.trans (bookC_signs _ _ n hn), b2⟩

set_option maxHeartbeats 4000000 in
theorem make_any (v : Value) (l : List Nat) (w : World) (h : Ints w v (Hf.up l)) (h1 : 1 ≤ l.length) (h2 : l.length ≤ 256) (h3 : ∀ n ∈ l, n ≤ 48) (hk : Hf.ksum l ≤ 281474976710656) :
    Calls Try.prog 39 #[v] w fun e w' => ∃ (G : Nat) (V : Nat → Value), e = .returned (.tuple #[.pointer (some ⟨G, 0, none⟩), .int .i64 0]) ∧ Book w' w.heap.size G l l.length V ∧ Below w.heap.size w w' := by
  obtain ⟨i0, hi, hz0, hz1, hz2⟩ := info_parts info_u8
  have hc := codes_any v l w h h1 h2 h3 hk
  obtain ⟨a, c, rfl⟩ := h.slice
  rw [Hf.up_length] at h hc ⊢
  have HI : Hid (Ints w (.slice a l.length c) (Hf.up l)) := h
  have H3 : Hid (∀ n ∈ l, n ≤ 48) := h3
  clear h h3 hk
  go_enter Try.func39, Try.ntmps39
  go_wp2_with fail
  refine hc.mono ?_
  rintro e w1 ⟨v1, rfl, hown1, hb1⟩
  obtain ⟨g1, c1, rfl⟩ : ∃ g1 c1, v1 = .slice (some ⟨g1, 0, none⟩) l.length c1 := by
    rcases hown1.2 with ⟨_, h0⟩ | ⟨g, cap, _, hv, _⟩
    · omega
    · exact ⟨g, cap, hv⟩
  clear hc
  have HN : Hid (Book (w1.alloc (.cells Try.zeroCells112 112)) w.heap.size w1.heap.size l 0 (fun _ => .slice none 0 0)) := Book.new w1 w.heap.size l hb1.size
  have HB1 : Hid (Below w.heap.size w (w1.alloc (.cells Try.zeroCells112 112))) := hb1.alloc hb1.size _
  have HC1 : Hid ((w1.alloc (.cells Try.zeroCells112 112)).ownsRow w.heap.size 3 1 (.slice (some ⟨g1, 0, none⟩) l.length c1) l.length ((Hf.codes l).map Iv)) := hown1.alloc _
  have HWW : Hid (w.heap.size ≤ w1.heap.size) := hb1.size
  obtain ⟨W0, hW0⟩ : ∃ W0, W0 = w1.alloc (.cells Try.zeroCells112 112) := ⟨_, rfl⟩
  rw [← hW0] at HN HB1 HC1
  clear hown1 hb1
  go_wp2_with fail
  rw [← hW0]
  clear hW0
  go_loopw [21] (fun i wr => ∃ (k : Nat) (V : Nat → Value), k ≤ l.length ∧ i = .int .i64 k ∧ Hid (Book wr w.heap.size w1.heap.size l k V) ∧ Hid (wr.ownsRow w.heap.size 3 1 (.slice (some ⟨g1, 0, none⟩) l.length c1) l.length ((Hf.codes l).map Iv)) ∧ Hid (Below w.heap.size w wr)) (fun i _ => l.length - (intOf i).toNat)
  case atStart => exact ⟨0, _, by omega, rfl, HN, HC1, HB1⟩
  case round =>
    clear HN HC1 HB1
    obtain ⟨k, V, hk, rfl, hbk, hrow, hbel⟩ := hrel
    by_cases hlt : k < l.length
    · obtain ⟨bk, o, rfl, hbk0, c0⟩ := (HI.out.below (Nat.le_refl _) hbel.out).getN k hlt
      have hn48 := Hf.getD_le H3.out k
      by_cases hn0 : l.getD k 0 = 0
      · have HBK : Hid (Book wr w.heap.size w1.heap.size l (k + 1) V) := hbk.out.congr (fun m hm => by
            by_cases e : m = 0
            · subst e; unfold Pr.fst; rw [Pr.shelf_nought, Pr.shelf_nought]
            · exact (Pr.fst_miss (by omega)).symm) (fun m hm => by
            by_cases e : m = 0
            · subst e; rw [Pr.shelf_nought, Pr.shelf_nought]
            · exact (Pr.shelf_miss (by omega)).symm)
        have hq : ((0 : Int) == 0) = true := rfl
        rw [hn0] at c0
        clear hn0 hbk
        go_wp2_with fail
        exact ⟨⟨k + 1, V, by omega, by go_num, HBK, hrow, hbel⟩, by simp only [intOf]; omega⟩
      · obtain ⟨n, hn⟩ : ∃ n, l.getD k 0 = n := ⟨_, rfl⟩
        rw [hn] at c0 hn48 hn0
        have HN : Hid (l.getD k 0 = n) := hn
        have hq : ((n : Int) == 0) = false := beq_eq_false_iff_ne.2 (by omega)
        obtain ⟨d0, d1, f0, f1⟩ := hbk.out.cells n hn48
        obtain ⟨a9, c9, hV, _⟩ := hbk.out.slice n hn48
        rw [hV] at d1
        have HV : Hid (V n = .slice a9 (Pr.shelf l n k).length c9) := hV
        have hsl := Pr.shelf_len l n k
        have HFE := Pr.fst_first (l := l) (n := n) (k := k) (by omega) hlt hn
        clear hn hV
        by_cases hz : (Pr.shelf l n k).length = 0
        · rw [if_pos hz] at HFE
          have HF : Hid (∀ wx, BookF wx w.heap.size w1.heap.size (fun m => if m = n then Hf.code l k else Pr.fst l m k) (fun m => Pr.shelf l m k) V → BookF wx w.heap.size w1.heap.size (fun m => if m = n then Pr.fst l n (k + 1) else Pr.fst l m k) (fun m => Pr.shelf l m k) V) := fun wx h => by rw [HFE]; exact h
          have hc2 := own_at hrow.out k (by rw [Hf.codes_length]; exact hlt)
          have hc3 : (Hf.codes l)[k]'(by rw [Hf.codes_length]; exact hlt) = (Hf.code l k : Nat) := by simp [Hf.codes]
          rw [hc3] at hc2
          have HF1 : Hid (BookF (wr.setCell ⟨w1.heap.size, n * 2, none⟩ (.int .i64 (Hf.code l k : Nat))) w.heap.size w1.heap.size (fun m => if m = n then Hf.code l k else Pr.fst l m k) (fun m => Pr.shelf l m k) V) := hbk.out.first
          have hz' : (((Pr.shelf l n k).length : Int) == 0) = true := by rw [beq_iff_eq]; omega
          have HZ : Hid ((Pr.shelf l n k).length = 0) := hz
          have hgG : g1 ≠ w1.heap.size := hbk.out.not_row hrow.out (by decide) g1 rfl
          clear hc3 HFE hz
          generalize Hf.code l k = ck at *
          generalize Pr.fst l n k = fk at *
          go_wp2_with fail
          go_cut [] from 36 to 44 (fun wx => Hid (BookF wx w.heap.size w1.heap.size (fun m => if m = n then Pr.fst l n (k + 1) else Pr.fst l m k) (fun m => Pr.shelf l m k) V ∧ wx.ownsRow w.heap.size 3 1 (.slice (some ⟨g1, 0, none⟩) l.length c1) l.length ((Hf.codes l).map Iv) ∧ Below w.heap.size w wx))
          case first =>
            go_region
            all_goals go_wp2_with fail
            all_goals go_meet
            all_goals
              have hk3 : Kept (fun q => q ≠ w1.heap.size) wr (wr.setCell ⟨w1.heap.size, n * 2, none⟩ (.int .i64 (ck : Nat))).drew := ((Kept.refl _ _).setCell (by simp) _).drew
              exact ⟨HF.out _ (BookF.drew HF1.out), own_kept hrow.out hk3 (hbk.out.not_row hrow.out (by decide)), hbel.out.trans (hk3.below hbel.out.size fun q hq => by have := HWW.out; omega)⟩
          case rest =>
            obtain ⟨e1, e2, e3⟩ := hcut.out
            have HQ1 : Hid (BookF wc w.heap.size w1.heap.size (fun m => if m = n then Pr.fst l n (k + 1) else Pr.fst l m k) (fun m => Pr.shelf l m k) V) := e1
            have HQ2 : Hid (wc.ownsRow w.heap.size 3 1 (.slice (some ⟨g1, 0, none⟩) l.length c1) l.length ((Hf.codes l).map Iv)) := e2
            have HQ3 : Hid (Below w.heap.size w wc) := e3
            clear hcut e1 e2 e3 d0 d1 f0 f1 hc2 hrow hbel hbk c0 HF HF1 hz' HZ hgG hbk0
            have hsg := HQ1.out.row n hn48
            rw [HV.out] at hsg
            have hrow9 : ∀ o, ((wc.alloc o).drew).ownsRow w.heap.size 5 1 (.slice a9 (Pr.shelf l n k).length c9) (Pr.shelf l n k).length ((Pr.upB (Pr.shelf l n k)).map B) := fun o => (hsg.alloc o).drew
            have HQ : Hid (∀ o w2, ((wc.alloc o).drew).grownBy w2 (Value.slice a9 (Pr.shelf l n k).length c9).ownBlock → w2.cell? ⟨w1.heap.size, n * 2 + 1, none⟩ = some (.slice a9 (Pr.shelf l n k).length c9) ∧ w2.frozen? ⟨w1.heap.size, n * 2 + 1, none⟩ = false) := fun o w2 hg => by
              rw [← HV.out] at hg ⊢
              exact Book.grown_cell HQ1.out hn48 hg
            have d1 : wc.cell? ⟨w1.heap.size, n * 2 + 1, none⟩ = some (.slice a9 (Pr.shelf l n k).length c9) := by
              have := (row_cells HQ1.out.box (n * 2 + 1) (by rw [bookC_length]; omega)).1.trans (bookC_signs _ _ n hn48)
              rw [HV.out] at this
              exact this
            have hwc := HQ3.out.size
            have hk256 : k < 256 := by omega
            have n49 : n < 49 := by omega
            have n49' : (n : Int) < 49 := by omega
            have hw8 : IntKind.u8.wrap (k : Int) = (k : Int) := by simp only [IntKind.wrap, IntKind.bits, IntKind.signed]; simp; omega
            have hGlt : w1.heap.size < wc.heap.size := (Array.getElem?_eq_some_iff.1 HQ1.out.box).1
            clear hsg
            go_wp2_with fail
            go_region_law ((refine step_append_lies _ (by rfl) (.tmp 52) (.tmp 55) 26 (by rfl) w.heap.size 5 i0 (.int .u8 0) 1 1 Try.underlying26 hi hz0 hz1 hz2 rfl (by decide) (.slice a9 (Pr.shelf l n k).length c9) (Pr.shelf l n k).length ((Pr.upB (Pr.shelf l n k)).map B) (by rfl) (hrow9 _) ⟨wc.heap.size, 0, none⟩ 1 1 [.int .u8 (k : Int)] (by rfl) (by rfl) (one_at (by simp)) (by simp [Value.oneCell']) (by decide) (by unfold maxLen; omega) (by omega) (by simp; omega) (wc.heap.size + 1) (by simp) ?_; intro g cap w2 hown2 hgrow hat hlt2; obtain ⟨q1, q2⟩ := HQ.out _ _ hgrow))
            all_goals have HX : Hid _ := Book.push (o := _) HQ1.out hn48 (by omega) hk256 HN.out HQ2.out HQ3.out.size hown2 (by rw [HV.out]; exact hgrow) (by rw [HV.out]; exact hat)
            all_goals clear hown2 hgrow hat q1 q2
            all_goals go_wp2_with fail
            all_goals obtain ⟨⟨V', x1⟩, x2, x3⟩ := HX.out
            all_goals exact ⟨⟨k + 1, V', by omega, by go_num, x1, x2, HQ3.out.trans x3⟩, by simp only [intOf]; omega⟩
        · rw [if_neg hz] at HFE
          have hz' : (((Pr.shelf l n k).length : Int) == 0) = false := by rw [beq_eq_false_iff_ne]; omega
          have HQ1 : Hid (BookF wr w.heap.size w1.heap.size (fun m => if m = n then Pr.fst l n (k + 1) else Pr.fst l m k) (fun m => Pr.shelf l m k) V) := hbk.out.congr (fun m hm => by
            by_cases e : m = n
            · subst e; simp only [if_true]; exact HFE.symm
            · simp only [if_neg e]) fun _ _ => rfl
          have HQ2 : Hid (wr.ownsRow w.heap.size 3 1 (.slice (some ⟨g1, 0, none⟩) l.length c1) l.length ((Hf.codes l).map Iv)) := hrow
          have HQ3 : Hid (Below w.heap.size w wr) := hbel
          clear d0 f0 hrow hbel hbk HFE hz
          generalize Pr.fst l n k = fk at *
          have hsg := HQ1.out.row n hn48
          rw [HV.out] at hsg
          have hrow9 : ∀ o, ((wr.alloc o).drew).ownsRow w.heap.size 5 1 (.slice a9 (Pr.shelf l n k).length c9) (Pr.shelf l n k).length ((Pr.upB (Pr.shelf l n k)).map B) := fun o => (hsg.alloc o).drew
          have HQ : Hid (∀ o w2, ((wr.alloc o).drew).grownBy w2 (Value.slice a9 (Pr.shelf l n k).length c9).ownBlock → w2.cell? ⟨w1.heap.size, n * 2 + 1, none⟩ = some (.slice a9 (Pr.shelf l n k).length c9) ∧ w2.frozen? ⟨w1.heap.size, n * 2 + 1, none⟩ = false) := fun o w2 hg => by
            rw [← HV.out] at hg ⊢
            exact Book.grown_cell HQ1.out hn48 hg
          have d1' : wr.cell? ⟨w1.heap.size, n * 2 + 1, none⟩ = some (.slice a9 (Pr.shelf l n k).length c9) := by
            have := (row_cells HQ1.out.box (n * 2 + 1) (by rw [bookC_length]; omega)).1.trans (bookC_signs _ _ n hn48)
            rw [HV.out] at this
            exact this
          have hwr := HQ3.out.size
          have hk256 : k < 256 := by omega
          have n49 : n < 49 := by omega
          have n49' : (n : Int) < 49 := by omega
          have hw8 : IntKind.u8.wrap (k : Int) = (k : Int) := by simp only [IntKind.wrap, IntKind.bits, IntKind.signed]; simp; omega
          have hGlt : w1.heap.size < wr.heap.size := (Array.getElem?_eq_some_iff.1 HQ1.out.box).1
          clear hsg
          go_wp2_with fail
          go_region_law ((refine step_append_lies _ (by rfl) (.tmp 52) (.tmp 55) 26 (by rfl) w.heap.size 5 i0 (.int .u8 0) 1 1 Try.underlying26 hi hz0 hz1 hz2 rfl (by decide) (.slice a9 (Pr.shelf l n k).length c9) (Pr.shelf l n k).length ((Pr.upB (Pr.shelf l n k)).map B) (by rfl) (hrow9 _) ⟨wr.heap.size, 0, none⟩ 1 1 [.int .u8 (k : Int)] (by rfl) (by rfl) (one_at (by simp)) (by simp [Value.oneCell']) (by decide) (by unfold maxLen; omega) (by omega) (by simp; omega) (wr.heap.size + 1) (by simp) ?_; intro g cap w2 hown2 hgrow hat hlt2; obtain ⟨q1, q2⟩ := HQ.out _ _ hgrow))
          all_goals have HX : Hid _ := Book.push (o := _) HQ1.out hn48 (by omega) hk256 HN.out HQ2.out HQ3.out.size hown2 (by rw [HV.out]; exact hgrow) (by rw [HV.out]; exact hat)
          all_goals clear hown2 hgrow hat q1 q2
          all_goals go_wp2_with fail
          all_goals obtain ⟨⟨V', x1⟩, x2, x3⟩ := HX.out
          all_goals exact ⟨⟨k + 1, V', by omega, by go_num, x1, x2, HQ3.out.trans x3⟩, by simp only [intOf]; omega⟩
    · obtain rfl : k = l.length := by omega
      go_wp2_with fail
      go_ret2
      exact ⟨_, V, rfl, hbk.out, hbel.out⟩
end Go.Proofs.Ytgdkfaphbbdnbaa
