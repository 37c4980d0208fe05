/-
  slices.Equal over shards; what ample, stays and spoil of package lumkeep do to shards.
-/
import Derived.Test.YtoeohnknpbdgdaaOwGen
import Derived.Test.YtoeohnknpbdgdaaShShards
import Derived.Test.YtoeohnknpbdgdaaShdEq
namespace Go.Proofs.Ytoeohnknpbdgdaa
open Go.RowKit
set_option maxRecDepth 4000

theorem rowS_one (l : List Shd) : ∀ u ∈ rowS l, u.oneCell' = true := by
  intro u hu
  obtain ⟨t, _, ht⟩ := List.mem_flatMap.1 hu
  exact shdC_one t u ht
theorem Sx.src {w : World} {a : Option Addr} {n c : Nat} {l : List Shd} (h : Sx w (.slice a n c) l) : (a = none → l.length = 0) ∧ ∀ ad, a = some ad → ∀ j u, (rowS l)[j]? = some u → w.cell? (ad.add j) = some u := by
  rcases h.at_ with ⟨_, rfl⟩ | ⟨bk, o, cap, h1, h3, h4⟩
  · exact ⟨fun _ => rfl, fun ad _ j u hj => by simp [rowS] at hj⟩
  · simp at h1
    obtain ⟨rfl, rfl, rfl⟩ := h1
    refine ⟨fun e => by simp at e, fun ad e j u hj => ?_⟩
    obtain rfl := Option.some.inj e
    have hjl : j < l.length * 2 := by
      have := (List.getElem?_eq_some_iff.1 hj).1
      rwa [rowS_length] at this
    obtain ⟨q, r, hr, rfl⟩ : ∃ q r, r < 2 ∧ j = q * 2 + r := ⟨j / 2, j % 2, Nat.mod_lt _ (by omega), by omega⟩
    have hq : q < l.length := by omega
    rw [rowS_get l q r hq hr] at hj
    obtain ⟨e0, e1⟩ := h4 q hq
    rw [add_at, ← Nat.add_assoc]
    match r, hr with
    | 0, _ => rw [← hj]; exact e0
    | 1, _ => rw [← hj]; exact e1
def twoS (f : Shd) : Obj := .cells #[.bool f.has, .string f.bytes, .bool f.has, .string f.bytes] 33
theorem two_news {W : World} {B : Nat} {f : Shd} (h : W.heap[B]? = some (twoS f)) : ∀ ad, some (⟨B, 0, none⟩ : Addr) = some ad → ∀ j u, (rowS [f, f])[j]? = some u → W.cell? (ad.add j) = some u := by
  intro ad e j u hj
  obtain rfl := Option.some.inj e
  rw [add_at, Nat.zero_add, cell_of_row W B j _ _ _ h]
  simpa [rowS, shdC] using hj
theorem rowS_two (l : List Shd) (f : Shd) : rowS (l ++ [f, f]) = rowS l ++ rowS [f, f] := by simp [rowS]

set_option maxHeartbeats 4000000 in
theorem ample_shds (v : Value) (l : List Shd) (f : Shd) (w : World) (h : Sx w v l) (hl : l.length * 24 ≤ 140737488351232) :
    Calls Try.prog 18 #[v, shdV f] w fun e w' => ∃ g, e = .returned (.slice (some ⟨g, 0, none⟩) l.length (l.length + 3)) ∧ w'.ownsRow w.heap.size 33 2 (.slice (some ⟨g, 0, none⟩) (l.length + 2) (l.length + 3)) (l.length + 2) (rowS (l ++ [f, f])) ∧ Below w.heap.size w w' := by
  obtain ⟨i0, hi, hz0, hz1, hz2⟩ := info_parts info_shd
  obtain ⟨a, c, rfl, hcc1, hcc2⟩ := h.slice
  obtain ⟨W1, hW1⟩ : ∃ W1, W1 = w.alloc (.cells #[.bool f.has, .string f.bytes] 33) := ⟨_, rfl⟩
  have hB1 : Below w.heap.size w W1 := by rw [hW1]; exact (Below.refl _ w).alloc (Nat.le_refl _) _
  have hs1 : w.heap.size < W1.heap.size := by rw [hW1]; simp
  have c0 : W1.cell? ⟨w.heap.size, 0, none⟩ = some (.bool f.has) := by rw [hW1]; simp
  have c1 : W1.cell? ⟨w.heap.size, 1, none⟩ = some (.string f.bytes) := by rw [hW1]; simp
  have HSX : Hid (∀ W, Below W1.heap.size W1 W → W.cell? ⟨w.heap.size, 0, none⟩ = some (.bool f.has) ∧ W.cell? ⟨w.heap.size, 1, none⟩ = some (.string f.bytes)) := fun W hW =>
    ⟨(hW.cell (p := ⟨w.heap.size, 0, none⟩) hs1).trans c0, (hW.cell (p := ⟨w.heap.size, 1, none⟩) hs1).trans c1⟩
  have HSR : Hid (∀ W, Below W1.heap.size W1 W → (a = none → l.length = 0) ∧ ∀ ad, a = some ad → ∀ j u, (rowS l)[j]? = some u → W.cell? (ad.add j) = some u) := fun W hW =>
    (h.below (hB1.trans (hW.mono (by omega)))).src
  have HB1 : Hid (Below w.heap.size w W1) := hB1
  have B0 : Hid (Below W1.heap.size W1 W1.drew) := (Below.refl _ W1).drew
  have BX : Hid (∀ o, Below W1.heap.size W1 (W1.alloc o).drew) := fun o => ((Below.refl _ W1).alloc (Nat.le_refl _) o).drew
  clear h hB1 hcc1 hcc2
  unfold shdV
  go_enter Try.func18, Try.ntmps18
  go_wp2_with fail
  rw [← hW1]
  clear hW1
  go_cut [5] from 6 (fun x wx => ∃ g, x = .slice (some ⟨g, 0, none⟩) (l.length + 2) (l.length + 3) ∧ Hid (wx.ownsRow W1.heap.size 33 2 (.slice (some ⟨g, 0, none⟩) (l.length + 2) (l.length + 3)) (l.length + 2) (rowS (l ++ [f, f])) ∧ Below W1.heap.size W1 wx))
  case first =>
    have hwr : IntKind.i64.wrap ((l.length : Int) + 3) = ((l.length + 3 : Nat) : Int) := by rw [IntKind.wrap_i64]; omega
    obtain ⟨w1, hr1, o1, g1⟩ := run_make_own (P := Try.prog) W1.drew W1.heap.size 29 33 i0 (.agg #[.bool false, .string ⟨#[]⟩]) 2 Try.underlying29 hi hz0 hz1 .i64 .i64 (l.length + 3) (by rw [hz2]; omega) (by unfold maxLen; omega) (by simp)
    obtain ⟨w1x, hr1x, o1x, g1x⟩ := run_make_own (P := Try.prog) (W1.alloc (.cells #[.bool f.has, .string f.bytes, .bool f.has, .string f.bytes] 33)).drew W1.heap.size 29 33 i0 (.agg #[.bool false, .string ⟨#[]⟩]) 2 Try.underlying29 hi hz0 hz1 .i64 .i64 (l.length + 3) (by rw [hz2]; omega) (by unfold maxLen; omega) (by simp)
    rw [← hwr] at hr1 hr1x
    have hb1 : Below W1.heap.size W1 w1 := B0.out.grown g1 (by simp) (fun k hk => by cases hk)
    have hb1x : Below W1.heap.size W1 w1x := (BX.out _).grown g1x (by simp) (fun k hk => by cases hk)
    have HX1 : Hid (w1x.heap[W1.heap.size]? = some (twoS f)) := (g1x.block _ (by simp) (by simp)).trans (heap_alloc_new W1 _)
    have hz1' := hb1.size
    have hz1x := hb1x.size
    have O1 : w1.ownsRow W1.heap.size 33 2 (.slice (some ⟨W1.heap.size, 0, none⟩) 0 (l.length + 3)) 0 [] := o1
    have O1x : w1x.ownsRow W1.heap.size 33 2 (.slice (some ⟨W1.heap.size + 1, 0, none⟩) 0 (l.length + 3)) 0 [] := by simpa using o1x
    have hx1 : W1.heap.size + 1 < w1x.heap.size := (O1x.lt _ rfl).2
    have hx2 : W1.heap.size < w1.heap.size := (O1.lt _ rfl).2
    have hr1' : (Instr.makeSlice 29 (.int .i64 0) (.int .i64 (IntKind.i64.wrap ((l.length : Int) + 3)))).run Try.prog W1.drew = .ok (.slice (some ⟨W1.heap.size, 0, none⟩) 0 (l.length + 3)) w1 := hr1
    have hr2' : (Instr.makeSlice 29 (.int .i64 0) (.int .i64 (IntKind.i64.wrap ((l.length : Int) + 3)))).run Try.prog (W1.alloc (.cells #[.bool f.has, .string f.bytes, .bool f.has, .string f.bytes] 33)).drew = .ok (.slice (some ⟨W1.heap.size + 1, 0, none⟩) 0 (l.length + 3)) w1x := by simpa using hr1x
    clear o1 o1x g1 g1x hr1 hr1x hwr
    go_region_held3 (fun w' => w'.cell? ⟨w.heap.size, 0, none⟩ = some (.bool f.has) ∧ w'.cell? ⟨w.heap.size, 1, none⟩ = some (.string f.bytes))
      (first | exact HSX.out _ hb3 | exact HSX.out _ (hb2.alloc hb2.size _) | exact HSX.out _ hb2 | exact HSX.out _ (hb1.alloc hz1' _) | exact HSX.out _ hb1 | exact HSX.out _ hb1x | go_keep)
      (first
        | (refine step_fits_all _ (by rfl) (.tmp 9) (.tmp 10) 29 (by rfl) W1.heap.size 33 i0 2 Try.underlying29 hi hz1 _ _ _ _ (by rfl) O1 _ _ _ (rowS l) (by rfl) (by rw [rowS_length]) (HSR.out _ hb1).1 (HSR.out _ hb1).2 (rowS_one l) (by omega) l.length (by omega) ?_; intro w2 o2 g2; rw [List.nil_append] at o2; have hb2 : Below W1.heap.size W1 w2 := hb1.grown g2 hz1' (fun k hk => by cases hk; omega))
        | (refine step_fits_all _ (by rfl) (.tmp 9) (.tmp 10) 29 (by rfl) W1.heap.size 33 i0 2 Try.underlying29 hi hz1 _ _ _ _ (by rfl) (O1.alloc _) _ _ _ (rowS l) (by rfl) (by rw [rowS_length]) (HSR.out _ hb1).1 (HSR.out _ (hb1.alloc hz1' _)).2 (rowS_one l) (by omega) l.length (by omega) ?_; intro w2 o2 g2; rw [List.nil_append] at o2; have hb2 : Below W1.heap.size W1 w2 := (hb1.alloc hz1' _).grown g2 (by simp; omega) (fun k hk => by cases hk; omega); have HX2 : Hid (w2.heap[w1.heap.size]? = some (twoS f)) := (g2.block _ (by simp) (by simp; omega)).trans (heap_alloc_new w1 _))
        | (refine step_fits_all _ (by rfl) (.tmp 9) (.tmp 10) 29 (by rfl) W1.heap.size 33 i0 2 Try.underlying29 hi hz1 _ _ _ _ (by rfl) O1x _ _ _ (rowS l) (by rfl) (by rw [rowS_length]) (HSR.out _ hb1x).1 (HSR.out _ hb1x).2 (rowS_one l) (by omega) l.length (by omega) ?_; intro w2 o2 g2; rw [List.nil_append] at o2; have hb2 : Below W1.heap.size W1 w2 := hb1x.grown g2 hz1x (fun k hk => by cases hk; omega); have HX2 : Hid (w2.heap[W1.heap.size]? = some (twoS f)) := (g2.block _ (by omega) (by simp)).trans HX1.out)
        | (refine step_fits_all _ (by rfl) (.tmp 11) (.tmp 14) 29 (by rfl) W1.heap.size 33 i0 2 Try.underlying29 hi hz1 _ _ _ _ (by rfl) (o2.alloc _) _ _ _ (rowS [f, f]) (by rfl) (by rfl) (by simp) (two_news (heap_alloc_new w2 _)) (rowS_one _) (by omega) (l.length + 2) (by omega) ?_; intro w3 o3 g3; have hb3 : Below W1.heap.size W1 w3 := (hb2.alloc hb2.size _).grown g3 (Nat.le_trans hb2.size (by simp)) (fun k hk => by cases hk; omega))
        | (refine step_fits_all _ (by rfl) (.tmp 11) (.tmp 14) 29 (by rfl) W1.heap.size 33 i0 2 Try.underlying29 hi hz1 _ _ _ _ (by rfl) o2 _ _ _ (rowS [f, f]) (by rfl) (by rfl) (by simp) (two_news HX2.out) (rowS_one _) (by omega) (l.length + 2) (by omega) ?_; intro w3 o3 g3; have hb3 : Below W1.heap.size W1 w3 := hb2.grown g3 hb2.size (fun k hk => by cases hk; omega)))
    all_goals
      go_wp2_with fail
      go_meet
      exact ⟨_, rfl, by rw [rowS_two]; exact o3, hb3⟩
  case rest =>
  obtain ⟨g, rfl, ho⟩ := hcut
  have HO := ho.out.1
  have HB := HB1.out.trans (ho.out.2.mono (by omega))
  have HO' : Hid (wc.ownsRow w.heap.size 33 2 (.slice (some ⟨g, 0, none⟩) (l.length + 2) (l.length + 3)) (l.length + 2) (rowS (l ++ [f, f]))) := own_lower HO (by omega)
  have HB' : Hid (Below w.heap.size w wc) := HB
  clear HO HB ho
  go_wp2_with fail
  go_ret
  exact ⟨_, rfl, HO'.out, HB'.out⟩

theorem amp_at {base g : Nat} {w : World} {l : List Shd} {f : Shd} (h : w.ownsRow base 33 2 (.slice (some ⟨g, 0, none⟩) (l.length + 2) (l.length + 3)) (l.length + 2) (rowS (l ++ [f, f]))) (i : Nat) (hi : i < l.length + 2) :
    w.cell? ⟨g, i * 2, none⟩ = some (.bool ((l ++ [f, f]).getD i Shd.none).has) ∧ w.cell? ⟨g, i * 2 + 1, none⟩ = some (.string ((l ++ [f, f]).getD i Shd.none).bytes) := by
  have key : ∀ r, r < 2 → ∀ u, (shdC ((l ++ [f, f]).getD i Shd.none))[r]? = some u → w.cell? ⟨g, i * 2 + r, none⟩ = some u := fun r hr u hu => by
    have := World.ownsRow.cells h (g := g) rfl (i * 2 + r) u (by rw [rowS_get _ i r (by simp; omega) hr]; exact hu)
    rwa [add_at, Nat.zero_add] at this
  exact ⟨key 0 (by omega) _ rfl, key 1 (by omega) _ rfl⟩
theorem amp_shds {base g : Nat} {w : World} {l : List Shd} {f : Shd} (h : w.ownsRow base 33 2 (.slice (some ⟨g, 0, none⟩) (l.length + 2) (l.length + 3)) (l.length + 2) (rowS (l ++ [f, f]))) (hl : l.length ≤ 140737488351232) : Sx w (.slice (some ⟨g, 0, none⟩) l.length (l.length + 3)) l := by
  have hlt : g < w.heap.size := (h.lt g rfl).2
  refine ⟨.inr ⟨g, 0, l.length + 3, rfl, hlt, fun j hj => ?_⟩, _, _, _, rfl, by omega, by omega⟩
  have := amp_at h j (by omega)
  rw [show (l ++ [f, f]).getD j Shd.none = l.getD j Shd.none from by rw [List.getD_eq_getElem?_getD, List.getElem?_append_left hj, ← List.getD_eq_getElem?_getD]] at this
  rw [Nat.zero_add]
  exact this
theorem ampS_fill {base g : Nat} {w : World} {l : List Shd} {f : Shd} (h : w.ownsRow base 33 2 (.slice (some ⟨g, 0, none⟩) (l.length + 2) (l.length + 3)) (l.length + 2) (rowS (l ++ [f, f]))) (i : Nat) (hi : i = l.length ∨ i = l.length + 1) :
    w.cell? ⟨g, i * 2, none⟩ = some (.bool f.has) ∧ w.cell? ⟨g, i * 2 + 1, none⟩ = some (.string f.bytes) := by
  have := amp_at h i (by omega)
  rwa [show (l ++ [f, f]).getD i Shd.none = f from by rcases hi with rfl | rfl <;> simp [List.getD_eq_getElem?_getD]] at this

set_option maxHeartbeats 2000000 in
theorem stays_shds (g : Nat) (u : Value) (l : List Shd) (f : Shd) (w : World) (base : Nat) (h : w.ownsRow base 33 2 (.slice (some ⟨g, 0, none⟩) (l.length + 2) (l.length + 3)) (l.length + 2) (rowS (l ++ [f, f]))) (k : Sx w u l) (hl : l.length * 24 ≤ 140737488351232) :
    Calls Try.prog 20 #[.slice (some ⟨g, 0, none⟩) l.length (l.length + 3), u, shdV f] w fun e w' => e = .returned (.bool true) ∧ Below w.heap.size w w' := by
  have hlt : g < w.heap.size := (h.lt g rfl).2
  obtain ⟨c0, c1⟩ := ampS_fill h l.length (.inl rfl)
  obtain ⟨d0, d1⟩ := ampS_fill h (l.length + 1) (.inr rfl)
  obtain ⟨W1, hW1⟩ : ∃ W1, W1 = w.alloc (.cells #[.bool f.has, .string f.bytes] 33) := ⟨_, rfl⟩
  have hb1 : Below w.heap.size w W1 := by rw [hW1]; exact (Below.refl _ w).alloc (Nat.le_refl _) _
  have hz1 : w.heap.size < W1.heap.size := by rw [hW1]; simp
  have heq : ∀ X : Since W1.heap.size W1, Calls Try.prog 34 #[.slice (some ⟨g, 0, none⟩) l.length (l.length + 3), u] X.val fun e w' => e = .returned (.bool true) ∧ Below X.val.heap.size X.val w' := fun X =>
    equal_shds _ _ l X.val ((amp_shds h (by omega)).below (hb1.trans (X.property.mono (by omega)))) (k.below (hb1.trans (X.property.mono (by omega)))) (by omega)
  have hcell : ∀ (X : Since W1.heap.size W1) (o : Nat), X.val.cell? ⟨g, o, none⟩ = w.cell? ⟨g, o, none⟩ := fun X o => (X.property.cell (p := ⟨g, o, none⟩) (by show g < _; omega)).trans (hb1.cell (p := ⟨g, o, none⟩) hlt)
  have x0 : ∀ X : Since W1.heap.size W1, X.val.cell? ⟨g, l.length * 2, none⟩ = some (.bool f.has) := fun X => (hcell X _).trans c0
  have x1 : ∀ X : Since W1.heap.size W1, X.val.cell? ⟨g, l.length * 2 + 1, none⟩ = some (.string f.bytes) := fun X => (hcell X _).trans c1
  have y0 : ∀ X : Since W1.heap.size W1, X.val.cell? ⟨g, (l.length + 1) * 2, none⟩ = some (.bool f.has) := fun X => (hcell X _).trans d0
  have y1 : ∀ X : Since W1.heap.size W1, X.val.cell? ⟨g, (l.length + 1) * 2 + 1, none⟩ = some (.string f.bytes) := fun X => (hcell X _).trans d1
  have b0 : ∀ X : Since W1.heap.size W1, X.val.cell? ⟨w.heap.size, 0, none⟩ = some (.bool f.has) := fun X => (X.property.cell (p := ⟨w.heap.size, 0, none⟩) hz1).trans (by rw [hW1]; simp)
  have b1 : ∀ X : Since W1.heap.size W1, X.val.cell? ⟨w.heap.size, 1, none⟩ = some (.string f.bytes) := fun X => (X.property.cell (p := ⟨w.heap.size, 1, none⟩) hz1).trans (by rw [hW1]; simp)
  have hte := fun W => shd_eq W f.has f.bytes
  have hne : Nonempty (Since W1.heap.size W1) := ⟨⟨W1, Below.refl _ _⟩⟩
  have HB1 : Hid (Below w.heap.size w W1) := hb1
  obtain ⟨ua, uc, rfl, hcc1, hcc2⟩ := k.slice
  clear hcc1 hcc2
  clear h k c0 c1 d0 d1 hcell hb1
  unfold shdV
  go_enter Try.func20, Try.ntmps20
  go_wp2_with fail
  rw [← hW1]
  clear hW1
  refine wp_region_since (B := W1.heap.size) (W0 := W1) (by kernel_rfl) (by kernel_rfl) (Below.refl _ _) ?_
  repeat (go_big_quiet_step (fail))
  go_big_quiet_step (exact quiet_since _ (heq _))
  repeat (go_big_quiet_step (fail))
  refine wpQuiet_nil ?_
  rintro w7 ⟨U, rfl⟩
  have HB3 : Hid (Below w.heap.size w U.val) := HB1.out.trans (U.property.mono HB1.out.size)
  generalize U.val = w7 at *
  clear x0 x1 y0 y1 b0 b1 hte hne heq
  go_wp2_with fail
  go_ret
  exact ⟨rfl, HB3.out⟩

set_option maxHeartbeats 1000000 in
theorem spoil_shds (g n c : Nat) (f : Shd) (w : World) (h : Room w g (c * 2) 33) (hc : c ≤ 9223372036854775807) (hg : g < w.heap.size) :
    Calls Try.prog 23 #[.slice (some ⟨g, 0, none⟩) n c, shdV f] w fun e w' => e = .returned (.tuple #[]) ∧ Kept (fun q => q ≠ g) w w' := by
  unfold shdV
  obtain ⟨W1, hW1⟩ : ∃ W1, W1 = w.alloc (.cells #[.bool f.has, .string f.bytes] 33) := ⟨_, rfl⟩
  have HK1 : Hid (Kept (fun q => q ≠ g) w W1) := by rw [hW1]; exact (Kept.refl _ w).alloc _
  have HR1 : Hid (Room W1 g (c * 2) 33) := by
    rw [hW1]
    exact h.kept (p := fun _ => True) ((Kept.refl _ w).alloc _) trivial
  have HZ : Hid (W1.heap[w.heap.size]? = some (.cells #[.bool f.has, .string f.bytes] 33 (0, 0))) := by rw [hW1]; exact heap_alloc_new w _
  clear h
  go_enter Try.func23, Try.ntmps23
  go_wp2_with fail
  rw [← hW1]
  clear hW1
  go_loopw [11] (fun i wr => ∃ k : Nat, k ≤ c ∧ i = .int .i64 k ∧ Hid (Room wr g (c * 2) 33) ∧ Hid (Kept (fun q => q ≠ g) w wr) ∧ Hid (wr.heap[w.heap.size]? = some (.cells #[.bool f.has, .string f.bytes] 33 (0, 0)))) (fun i _ => c - (intOf i).toNat)
  case atStart => exact ⟨0, by omega, rfl, HR1, HK1, HZ⟩
  case round =>
    obtain ⟨k, hk, rfl, hr, hkp, hz⟩ := hrel
    by_cases hlt : k < c
    · obtain ⟨⟨p0, x0⟩, f0⟩ := hr.out.cell (k * 2) (by omega)
      obtain ⟨⟨p1, x1⟩, f1⟩ := hr.out.cell (k * 2 + 1) (by omega)
      have b0 : wr.cell? ⟨w.heap.size, 0, none⟩ = some (.bool f.has) := by rw [cell_of_row _ w.heap.size 0 _ _ _ hz.out]; rfl
      have b1 : wr.cell? ⟨w.heap.size, 1, none⟩ = some (.string f.bytes) := by rw [cell_of_row _ w.heap.size 1 _ _ _ hz.out]; rfl
      have HR : Hid (Room (((wr.setCell ⟨g, k * 2, none⟩ (.bool f.has)).setCell ⟨g, k * 2 + 1, none⟩ (.string f.bytes))) g (c * 2) 33) := (hr.out.set _ _).set _ _
      have HK : Hid (Kept (fun q => q ≠ g) w (((wr.setCell ⟨g, k * 2, none⟩ (.bool f.has)).setCell ⟨g, k * 2 + 1, none⟩ (.string f.bytes)))) := (hkp.out.setCell (by simp) _).setCell (by simp) _
      have HZ2 : Hid ((((wr.setCell ⟨g, k * 2, none⟩ (.bool f.has)).setCell ⟨g, k * 2 + 1, none⟩ (.string f.bytes))).heap[w.heap.size]? = some (.cells #[.bool f.has, .string f.bytes] 33 (0, 0))) :=
        (((Kept.refl (fun q => q ≠ g) wr).setCell (by simp) _).setCell (by simp) _).obj (by omega) hz.out
      clear hr hkp hz
      go_wp2_with fail
      go_roundw
      case rel => exact ⟨k + 1, by omega, by go_num, HR, HK, HZ2⟩
      case measure => simp only [intOf]; omega
    · go_wp2_with fail
      go_end0
      exact ⟨rfl, hkp.out⟩

end Go.Proofs.Ytoeohnknpbdgdaa
