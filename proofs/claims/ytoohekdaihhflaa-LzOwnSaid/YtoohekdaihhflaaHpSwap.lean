/-
  What swap of package huff does.
-/
import Derived.Test.YtoohekdaihhflaaHpMem
namespace Go.Proofs.Ytoohekdaihhflaa
open Go.RowKit

/-- a heap's three cells written anew -/
def put3 (W : World) (g i : Nat) (x : Hf.G) : World := ((W.setCell ⟨g, i * 3, none⟩ (.int .i64 x.wt)).setCell ⟨g, i * 3 + 1, none⟩ (.int .i64 x.low)).setCell ⟨g, i * 3 + 2, none⟩ x.sv
theorem Heap.put3 {W : World} {base Hb g n c : Nat} {l : List Hf.G} (h : Heap W base Hb (.slice (some ⟨g, 0, none⟩) n c) l) (hn : n = l.length) (i : Nat) (x : Hf.G) (hx : W.ownsRow base 3 1 x.sv x.sg.length ((Hf.up x.sg).map Iv)) :
    Heap (put3 W g i x) base Hb (.slice (some ⟨g, 0, none⟩) n c) (l.set i x) ∧ Kept (fun k => k ≠ g) W (put3 W g i x) := by
  subst hn
  have hk : Kept (fun k => k ≠ g) W (Go.Proofs.Ytoohekdaihhflaa.put3 W g i x) := (((Kept.refl _ W).setCell (by simp) _).setCell (by simp) _).setCell (by simp) _
  have hg : Hb ≠ g := fun e => h.apart (by rw [e]; rfl)
  refine ⟨⟨(hk.block _ (Array.getElem?_eq_some_iff.1 h.box).1 hg).trans h.box, h.old, ?_, fun y hy => ?_⟩, hk⟩
  · rw [rowG_set, List.length_set, show 3 * i = i * 3 from by omega]
    exact ((((h.row.stored (i * 3) _).1.stored (i * 3 + 1) _).1).stored (i * 3 + 2) _).1
  · have hy' : W.ownsRow base 3 1 y.sv y.sg.length ((Hf.up y.sg).map Iv) := by
      rcases List.mem_or_eq_of_mem_set hy with hy | rfl
      · exact h.signs y hy
      · exact hx
    exact own_kept hy' hk fun b hb e => (h.sign_apart hy' b hb).2 (by rw [e]; rfl)
theorem own_slice {base : Nat} {e : TypeId} {k : Nat} {v : Value} {n : Nat} {xs : List Value} {w : World} (h : w.ownsRow base e k v n xs) : ∃ a m c, v = .slice a m c := by
  rcases h.2 with ⟨rfl, _⟩ | ⟨g, cap, cur, rfl, _⟩
  · exact ⟨_, _, _, rfl⟩
  · exact ⟨_, _, _, rfl⟩
theorem Heap.drew {W : World} {base Hb : Nat} {v : Value} {l : List Hf.G} (h : Heap W base Hb v l) : Heap W.drew base Hb v l := h.keep (Below.refl _ W).drew

set_option maxHeartbeats 4000000 in
theorem swap_any (base Hb : Nat) (v : Value) (l : List Hf.G) (w : World) (h : Heap w base Hb v l) (i j : Nat) (hi : i < l.length) (hj : j < l.length) (hl : l.length ≤ 256) :
    Calls Try.prog 45 #[.pointer (some ⟨Hb, 0, none⟩), .int .i64 i, .int .i64 j] w fun e w' => e = .returned (.tuple #[]) ∧ Heap w' base Hb v (Hf.swp l i j) ∧ Stays Hb v w w' := by
  obtain ⟨g, c, rfl⟩ := h.slice1 (by omega)
  have HE : Hid (∀ W, W = (put3 (put3 w g i (Hf.nth l j)) g j (Hf.nth l i)).drew → Heap W base Hb (.slice (some ⟨g, 0, none⟩) l.length c) (Hf.swp l i j) ∧ Stays Hb (.slice (some ⟨g, 0, none⟩) l.length c) w W) := by
    rintro W rfl
    obtain ⟨h1, k1⟩ := h.put3 rfl i (Hf.nth l j) (h.signs _ (Hf.nth_mem hj))
    have hs := h.signs _ (Hf.nth_mem hi)
    obtain ⟨h2, k2⟩ := h1.put3 (by rw [List.length_set]) j (Hf.nth l i) (own_kept hs k1 fun b hb e => (h.sign_apart hs b hb).2 (by rw [e]; rfl))
    refine ⟨h2.drew, ((k1.trans k2).mono fun k hk => ?_).drew⟩
    rintro rfl
    exact hk.2 rfl
  obtain ⟨c0, c1, f1⟩ := h.cells
  obtain ⟨a0, a1, a2, af0, af1, af2, hg⟩ := h.at_ rfl i hi
  have hne : g ≠ Hb := fun e => h.apart (by rw [← e]; rfl)
  have hx := own_slice (h.signs _ (Hf.nth_mem hi))
  unfold put3 at HE
  by_cases hij : i = j
  · subst hij
    generalize Hf.nth l i = x at *
    obtain ⟨xw, xl, xs, xv⟩ := x
    dsimp only at *
    obtain ⟨xa, xm, xc, rfl⟩ := hx
    clear h xs
    go_enter Try.func45, Try.ntmps45
    go_wp2_with fail
    go_region
    go_wp2_with fail
    go_end0
    exact ⟨rfl, HE.out _ rfl⟩
  · obtain ⟨b0, b1, b2, bf0, bf1, bf2, _⟩ := h.at_ rfl j hj
    have hy := own_slice (h.signs _ (Hf.nth_mem hj))
    generalize Hf.nth l i = x at *
    generalize Hf.nth l j = y at *
    obtain ⟨xw, xl, xs, xv⟩ := x
    obtain ⟨yw, yl, ys, yv⟩ := y
    dsimp only at *
    obtain ⟨xa, xm, xc, rfl⟩ := hx
    obtain ⟨ya, ym, yc, rfl⟩ := hy
    clear h xs ys
    go_enter Try.func45, Try.ntmps45
    go_wp2_with fail
    go_region
    go_wp2_with fail
    go_end0
    exact ⟨rfl, HE.out _ rfl⟩
end Go.Proofs.Ytoohekdaihhflaa
