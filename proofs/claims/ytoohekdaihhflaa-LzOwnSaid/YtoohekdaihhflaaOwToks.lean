/-
  What ample, stays and spoil of package lumkeep do to tokens.
-/
import Derived.Test.YtoohekdaihhflaaOwInts
import Derived.Test.YtoohekdaihhflaaLzEq
import Derived.Deep.RegionHeld3
namespace Go.Proofs.Ytoohekdaihhflaa
open Go.RowKit

theorem step_of_wp {P : Program} {ops : Array Oper} {o : Oper} {a : Act} {w : World} {K : Act → World → Prop} {Q : Exit → Act → World → Prop} {E : Prop} (hg : o.guard = none) (h : Oper.wp P o a w K Q) : if Region.wanted o (yielded ops a.tmps) = true then Oper.wp P o a w K Q else E := by
  rw [if_pos (by simp [Region.wanted, hg])]
  exact h
theorem step_make_own {P : Program} (w : World) {ops : Array Oper} {o : Oper} {a : Act} {K : Act → World → Prop} {Q : Exit → Act → World → Prop} {E : Prop}
    (hg : o.guard = none) (l c : Operand) (t : TypeId) (hop : o.op = Op.makeSlice t l c)
    (base : Nat) (e : TypeId) (i : TypeInfo) (z : Value) (size : Nat) (h1 : P.underlying t = some (.slice e)) (h2 : P.info? e = some i) (h3 : i.zero = some z) (h4 : i.size = size)
    (kl kc : IntKind) (C : Int) (n : Nat) (hl : a.eval l = .int kl 0) (hc : a.eval c = .int kc C) (hC : C = (n : Int)) (b2 : i.bytes * n ≤ 281474976710656) (b3 : n ≤ maxLen) (b4 : base ≤ w.heap.size)
    (hK : ∀ w' g, w'.ownsRow base e size (.slice (some ⟨g, 0, none⟩) 0 n) 0 [] → w.grownBy w' none → K (a.put o.dst (.slice (some ⟨g, 0, none⟩) 0 n)) w') :
    if Region.wanted o (yielded ops a.tmps) = true then Oper.wp P o a w K Q else E := by
  refine step_of_wp hg ?_
  obtain ⟨w', hrun, r1, r2⟩ := run_make_own (P := P) w base t e i z size h1 h2 h3 h4 kl kc n b2 b3 b4
  subst hC
  unfold Oper.wp
  simp [execOp, hop, hl, hc, hrun, Result.andThen]
  exact hK w' _ r1 r2
theorem step_fits_all {P : Program} (w : World) {ops : Array Oper} {o : Oper} {a : Act} {K : Act → World → Prop} {Q : Exit → Act → World → Prop} {E : Prop}
    (hg : o.guard = none) (s x : Operand) (t : TypeId) (hop : o.op = Op.call { callee := Callee.builtin Builtin.append, args := #[s, x], argTypes := #[t, t] })
    (base : Nat) (e : TypeId) (i : TypeInfo) (size : Nat) (h1 : P.underlying t = some (.slice e)) (h2 : P.info? e = some i) (h4 : i.size = size)
    (g k cap : Nat) (xs : List Value) (hs : a.eval s = .slice (some ⟨g, 0, none⟩) k cap) (hown : w.ownsRow base e size (.slice (some ⟨g, 0, none⟩) k cap) k xs) (ao : Option Addr) (m c : Nat) (news : List Value) (hx : a.eval x = .slice ao m c) (hn : news.length = m * size)
    (hnone : ao = none → m = 0) (hc : ∀ ad, ao = some ad → ∀ j u, news[j]? = some u → w.cell? (ad.add j) = some u) (h1c : ∀ u ∈ news, u.oneCell' = true) (b1 : k + m ≤ cap) (km : Nat) (hkm : km = k + m)
    (hK : ∀ w', w'.ownsRow base e size (.slice (some ⟨g, 0, none⟩) km cap) km (xs ++ news) → w.grownBy w' (some g) → K (a.put o.dst (.slice (some ⟨g, 0, none⟩) km cap)) w') :
    if Region.wanted o (yielded ops a.tmps) = true then Oper.wp P o a w K Q else E := by
  refine step_of_wp hg ?_
  obtain ⟨w', hrun, r1, r2⟩ := run_fits_all (P := P) w base t o.type e i size h1 h2 h4 g k cap xs hown ao m c news hn hnone hc h1c b1
  subst hkm
  unfold Oper.wp
  simp [execOp, hop, resolve, invoke, builtin, hs, hx, hrun, Result.andThen]
  exact hK w' r1 r2
theorem tokC_one (t : Lz.Tr) : ∀ u ∈ tokC t, u.oneCell' = true := by
  intro u hu
  simp [tokC] at hu
  rcases hu with rfl | rfl | rfl <;> rfl
theorem rowC_one (l : List Lz.Tr) : ∀ u ∈ rowC l, u.oneCell' = true := by
  intro u hu
  obtain ⟨t, _, ht⟩ := List.mem_flatMap.1 hu
  exact tokC_one t u ht
theorem Toks.src {w : World} {a : Option Addr} {n c : Nat} {l : List Lz.Tr} (h : Toks w (.slice a n c) l) : (a = none → l.length = 0) ∧ ∀ ad, a = some ad → ∀ j u, (rowC l)[j]? = some u → w.cell? (ad.add j) = some u := by
  rcases h.at_ with ⟨_, rfl⟩ | ⟨bk, o, cap, h1, h3, h4⟩
  · exact ⟨fun _ => rfl, fun ad _ j u hj => by simp [rowC] at hj⟩
  · simp at h1
    obtain ⟨rfl, rfl, rfl⟩ := h1
    refine ⟨fun e => by simp at e, fun ad e j u hj => ?_⟩
    obtain rfl := Option.some.inj e
    have hjl : j < 3 * l.length := by
      have := (List.getElem?_eq_some_iff.1 hj).1
      rwa [rowC_length] at this
    obtain ⟨q, r, hr, rfl⟩ : ∃ q r, r < 3 ∧ j = 3 * q + r := ⟨j / 3, j % 3, Nat.mod_lt _ (by omega), by omega⟩
    have hq : q < l.length := by omega
    rw [rowC_get l q r hq hr] at hj
    obtain ⟨e0, e1, e2⟩ := h4 q hq
    rw [show ((⟨bk, o, none⟩ : Addr).add (3 * q + r)) = ⟨bk, o + q * 3 + r, none⟩ from by unfold Addr.add; split <;> simp_all; omega]
    match r, hr with
    | 0, _ => rw [← hj]; exact e0
    | 1, _ => rw [← hj]; exact e1
    | 2, _ => rw [← hj]; exact e2
def twoT (f : Lz.Tr) : Obj := .cells #[.int .u8 f.lit.toNat, .int .i64 f.len, .int .i64 f.dist, .int .u8 f.lit.toNat, .int .i64 f.len, .int .i64 f.dist] 36
theorem two_news {W : World} {B : Nat} {f : Lz.Tr} (h : W.heap[B]? = some (twoT f)) : ∀ ad, some (⟨B, 0, none⟩ : Addr) = some ad → ∀ j u, (rowC [f, f])[j]? = some u → W.cell? (ad.add j) = some u := by
  intro ad e j u hj
  obtain rfl := Option.some.inj e
  rw [show ((⟨B, 0, none⟩ : Addr).add j) = ⟨B, j, none⟩ from by unfold Addr.add; split <;> simp_all, cell_of_row W B j _ _ _ h]
  simpa [rowC, tokC] using hj

theorem rowC_two (l : List Lz.Tr) (f : Lz.Tr) : rowC (l ++ [f, f]) = rowC l ++ rowC [f, f] := by simp [rowC]

set_option maxHeartbeats 4000000 in
theorem ample_toks (v : Value) (l : List Lz.Tr) (f : Lz.Tr) (w : World) (h : Toks w v l) (hl : l.length * 24 ≤ 140737488351232) :
    Calls Try.prog 18 #[v, tokV f] w fun e w' => ∃ g, e = .returned (.slice (some ⟨g, 0, none⟩) l.length (l.length + 3)) ∧ w'.ownsRow w.heap.size 36 3 (.slice (some ⟨g, 0, none⟩) (l.length + 2) (l.length + 3)) (l.length + 2) (rowC (l ++ [f, f])) ∧ Below w.heap.size w w' := by
  obtain ⟨i0, hi, hz0, hz1, hz2⟩ := info_parts info_tok
  obtain ⟨a, c, rfl⟩ := h.slice
  obtain ⟨W1, hW1⟩ : ∃ W1, W1 = w.alloc (.cells #[.int .u8 f.lit.toNat, .int .i64 f.len, .int .i64 f.dist] 36) := ⟨_, rfl⟩
  have hB1 : Below w.heap.size w W1 := by rw [hW1]; exact (Below.refl _ w).alloc (Nat.le_refl _) _
  have hs1 : w.heap.size < W1.heap.size := by rw [hW1]; simp
  have c0 : W1.cell? ⟨w.heap.size, 0, none⟩ = some (.int .u8 (f.lit.toNat : Int)) := by rw [hW1]; simp
  have c1 : W1.cell? ⟨w.heap.size, 1, none⟩ = some (.int .i64 f.len) := by rw [hW1]; simp
  have c2 : W1.cell? ⟨w.heap.size, 2, none⟩ = some (.int .i64 f.dist) := by rw [hW1]; simp
  have HSX : Hid (∀ W, Below W1.heap.size W1 W → W.cell? ⟨w.heap.size, 0, none⟩ = some (.int .u8 (f.lit.toNat : Int)) ∧ W.cell? ⟨w.heap.size, 1, none⟩ = some (.int .i64 f.len) ∧ W.cell? ⟨w.heap.size, 2, none⟩ = some (.int .i64 f.dist)) := fun W hW =>
    ⟨(hW.cell (p := ⟨w.heap.size, 0, none⟩) hs1).trans c0, (hW.cell (p := ⟨w.heap.size, 1, none⟩) hs1).trans c1, (hW.cell (p := ⟨w.heap.size, 2, none⟩) hs1).trans c2⟩
  have HSR : Hid (∀ W, Below W1.heap.size W1 W → (a = none → l.length = 0) ∧ ∀ ad, a = some ad → ∀ j u, (rowC l)[j]? = some u → W.cell? (ad.add j) = some u) := fun W hW =>
    (h.below (Nat.le_refl _) (hB1.trans (hW.mono (by omega)))).src
  have HB1 : Hid (Below w.heap.size w W1) := hB1
  have B0 : Hid (Below W1.heap.size W1 W1.drew) := (Below.refl _ W1).drew
  have BX : Hid (∀ o, Below W1.heap.size W1 (W1.alloc o).drew) := fun o => ((Below.refl _ W1).alloc (Nat.le_refl _) o).drew
  clear h hB1
  unfold tokV
  go_enter Try.func18, Try.ntmps18
  go_wp2_with fail
  rw [← hW1]
  clear hW1
  go_cut [5] from 6 (fun x wx => ∃ g, x = .slice (some ⟨g, 0, none⟩) (l.length + 2) (l.length + 3) ∧ Hid (wx.ownsRow W1.heap.size 36 3 (.slice (some ⟨g, 0, none⟩) (l.length + 2) (l.length + 3)) (l.length + 2) (rowC (l ++ [f, f])) ∧ Below W1.heap.size W1 wx))
  case first =>
    have hwr : IntKind.i64.wrap ((l.length : Int) + 3) = ((l.length + 3 : Nat) : Int) := by rw [IntKind.wrap_i64]; omega
    obtain ⟨w1, hr1, o1, g1⟩ := run_make_own (P := Try.prog) W1.drew W1.heap.size 31 36 i0 (.agg #[.int .u8 0, .int .i64 0, .int .i64 0]) 3 Try.underlying31 hi hz0 hz1 .i64 .i64 (l.length + 3) (by rw [hz2]; omega) (by unfold maxLen; omega) (by simp)
    obtain ⟨w1x, hr1x, o1x, g1x⟩ := run_make_own (P := Try.prog) (W1.alloc (.cells #[.int .u8 (f.lit.toNat : Int), .int .i64 f.len, .int .i64 f.dist, .int .u8 (f.lit.toNat : Int), .int .i64 f.len, .int .i64 f.dist] 36)).drew W1.heap.size 31 36 i0 (.agg #[.int .u8 0, .int .i64 0, .int .i64 0]) 3 Try.underlying31 hi hz0 hz1 .i64 .i64 (l.length + 3) (by rw [hz2]; omega) (by unfold maxLen; omega) (by simp)
    rw [← hwr] at hr1 hr1x
    have hb1 : Below W1.heap.size W1 w1 := B0.out.grown g1 (by simp) (fun k hk => by cases hk)
    have hb1x : Below W1.heap.size W1 w1x := (BX.out _).grown g1x (by simp) (fun k hk => by cases hk)
    have HX1 : Hid (w1x.heap[W1.heap.size]? = some (twoT f)) := (g1x.block _ (by simp) (by simp)).trans (heap_alloc_new W1 _)
    have hz1' := hb1.size
    have hz1x := hb1x.size
    have O1 : w1.ownsRow W1.heap.size 36 3 (.slice (some ⟨W1.heap.size, 0, none⟩) 0 (l.length + 3)) 0 [] := o1
    have O1x : w1x.ownsRow W1.heap.size 36 3 (.slice (some ⟨W1.heap.size + 1, 0, none⟩) 0 (l.length + 3)) 0 [] := by simpa using o1x
    have hx1 : W1.heap.size + 1 < w1x.heap.size := (O1x.lt _ rfl).2
    have hx2 : W1.heap.size < w1.heap.size := (O1.lt _ rfl).2
    have hr1' : (Instr.makeSlice 31 (.int .i64 0) (.int .i64 (IntKind.i64.wrap ((l.length : Int) + 3)))).run Try.prog W1.drew = .ok (.slice (some ⟨W1.heap.size, 0, none⟩) 0 (l.length + 3)) w1 := hr1
    have hr2' : (Instr.makeSlice 31 (.int .i64 0) (.int .i64 (IntKind.i64.wrap ((l.length : Int) + 3)))).run Try.prog (W1.alloc (.cells #[.int .u8 (f.lit.toNat : Int), .int .i64 f.len, .int .i64 f.dist, .int .u8 (f.lit.toNat : Int), .int .i64 f.len, .int .i64 f.dist] 36)).drew = .ok (.slice (some ⟨W1.heap.size + 1, 0, none⟩) 0 (l.length + 3)) w1x := by simpa using hr1x
    clear o1 o1x g1 g1x hr1 hr1x hwr
    go_region_held3 (fun w' => w'.cell? ⟨w.heap.size, 0, none⟩ = some (.int .u8 (f.lit.toNat : Int)) ∧ w'.cell? ⟨w.heap.size, 1, none⟩ = some (.int .i64 f.len) ∧ w'.cell? ⟨w.heap.size, 2, none⟩ = some (.int .i64 f.dist))
      (first | exact HSX.out _ hb3 | exact HSX.out _ (hb2.alloc hb2.size _) | exact HSX.out _ hb2 | exact HSX.out _ (hb1.alloc hz1' _) | exact HSX.out _ hb1 | exact HSX.out _ hb1x | go_keep)
      (first
        | (refine step_fits_all _ (by rfl) (.tmp 9) (.tmp 10) 31 (by rfl) W1.heap.size 36 i0 3 Try.underlying31 hi hz1 _ _ _ _ (by rfl) O1 _ _ _ (rowC l) (by rfl) (by rw [rowC_length]; omega) (HSR.out _ hb1).1 (HSR.out _ hb1).2 (rowC_one l) (by omega) l.length (by omega) ?_; intro w2 o2 g2; rw [List.nil_append] at o2; have hb2 : Below W1.heap.size W1 w2 := hb1.grown g2 hz1' (fun k hk => by cases hk; omega))
        | (refine step_fits_all _ (by rfl) (.tmp 9) (.tmp 10) 31 (by rfl) W1.heap.size 36 i0 3 Try.underlying31 hi hz1 _ _ _ _ (by rfl) (O1.alloc _) _ _ _ (rowC l) (by rfl) (by rw [rowC_length]; omega) (HSR.out _ hb1).1 (HSR.out _ (hb1.alloc hz1' _)).2 (rowC_one l) (by omega) l.length (by omega) ?_; intro w2 o2 g2; rw [List.nil_append] at o2; have hb2 : Below W1.heap.size W1 w2 := (hb1.alloc hz1' _).grown g2 (by simp; omega) (fun k hk => by cases hk; omega); have HX2 : Hid (w2.heap[w1.heap.size]? = some (twoT f)) := (g2.block _ (by simp) (by simp; omega)).trans (heap_alloc_new w1 _))
        | (refine step_fits_all _ (by rfl) (.tmp 9) (.tmp 10) 31 (by rfl) W1.heap.size 36 i0 3 Try.underlying31 hi hz1 _ _ _ _ (by rfl) O1x _ _ _ (rowC l) (by rfl) (by rw [rowC_length]; omega) (HSR.out _ hb1x).1 (HSR.out _ hb1x).2 (rowC_one l) (by omega) l.length (by omega) ?_; intro w2 o2 g2; rw [List.nil_append] at o2; have hb2 : Below W1.heap.size W1 w2 := hb1x.grown g2 hz1x (fun k hk => by cases hk; omega); have HX2 : Hid (w2.heap[W1.heap.size]? = some (twoT f)) := (g2.block _ (by omega) (by simp)).trans HX1.out)
        | (refine step_fits_all _ (by rfl) (.tmp 11) (.tmp 14) 31 (by rfl) W1.heap.size 36 i0 3 Try.underlying31 hi hz1 _ _ _ _ (by rfl) (o2.alloc _) _ _ _ (rowC [f, f]) (by rfl) (by rfl) (by simp) (two_news (heap_alloc_new w2 _)) (rowC_one _) (by omega) (l.length + 2) (by omega) ?_; intro w3 o3 g3; have hb3 : Below W1.heap.size W1 w3 := (hb2.alloc hb2.size _).grown g3 (Nat.le_trans hb2.size (by simp)) (fun k hk => by cases hk; omega))
        | (refine step_fits_all _ (by rfl) (.tmp 11) (.tmp 14) 31 (by rfl) W1.heap.size 36 i0 3 Try.underlying31 hi hz1 _ _ _ _ (by rfl) o2 _ _ _ (rowC [f, f]) (by rfl) (by rfl) (by simp) (two_news HX2.out) (rowC_one _) (by omega) (l.length + 2) (by omega) ?_; intro w3 o3 g3; have hb3 : Below W1.heap.size W1 w3 := hb2.grown g3 hb2.size (fun k hk => by cases hk; omega)))
    all_goals
      go_wp2_with fail
      go_meet
      exact ⟨_, rfl, by rw [rowC_two]; exact o3, hb3⟩
  case rest =>
  obtain ⟨g, rfl, ho⟩ := hcut
  have HO := ho.out.1
  have HB := HB1.out.trans (ho.out.2.mono (by omega))
  have HO' : Hid (wc.ownsRow w.heap.size 36 3 (.slice (some ⟨g, 0, none⟩) (l.length + 2) (l.length + 3)) (l.length + 2) (rowC (l ++ [f, f]))) := own_lower HO (by omega)
  have HB' : Hid (Below w.heap.size w wc) := HB
  clear HO HB ho
  go_wp2_with fail
  go_ret
  exact ⟨_, rfl, HO'.out, HB'.out⟩
end Go.Proofs.Ytoohekdaihhflaa
