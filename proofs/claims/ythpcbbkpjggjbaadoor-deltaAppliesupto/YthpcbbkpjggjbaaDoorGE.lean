/-
  lumref: what Edits answers.
  P46, P47: what lumref's itemErr and Way answer.
  P46: what lumref's World answers.
  lumref: what Apply answers.
  lumref: what JoinEdits answers.
  What the statement about Check, Apply and Join answers, by the document's answer.
  lumref: what Diff answers.
  What the statement about Diff answers, by the document's answer.
  Nodes handed in, read as data: opened.
  Blobs, ways and items handed in and read as data: opened, shut, and how great they may be.
  Edits handed in and read as data: opened, and how great they may be.
  What the rows list of unicode/utf8's tables is what ValidString's contract asks.
-/
import Derived.Test.YthpcbbkpjggjbaaDoorGC
import Derived.Test.YthpcbbkpjggjbaaDoorGD
import Derived.Test.YthpcbbkpjggjbaaDoorGB
import Derived.Test.YthpcbbkpjggjbaaDoorGA
import Derived.Test.YthpcbbkpjggjbaaDoorRows
import Derived.Lib.SmallJoins
import Derived.Lib.LaidU8T
import Derived.SliceStrings

namespace Go.Proofs.YthpcbbkpjggjbaaDoor
open Go.RowKit
set_option maxRecDepth 4000

set_option maxHeartbeats 8000000 in
theorem redits_any (v : Value) (l : List Em) (w : World) (h : Eds w v l) (hl : l.length ≤ 140737488351232) (hs : ∀ x ∈ l, x.path.size ≤ 1048576) :
    Calls Tryd.prog 16 #[v] w fun e w' => e = .returned (.int .i64 (Dl.check (edl l))) ∧ Below w.heap.size w w' := by
  obtain ⟨a, c, rfl, hlc1, hlc2⟩ := h.slice
  by_cases h200 : 200 < l.length
  · have HR : Hid (Dl.check (edl l) = 2) := by show _ = _; unfold Dl.check; rw [if_pos (by rw [edl_length]; exact h200)]
    generalize Dl.check (edl l) = R at *
    have hgt : ((l.length : Int) > 200) := by omega
    clear h hs
    go_enter Tryd.func16, Tryd.ntmps16
    go_wp2_with fail
    go_ret
    exact ⟨by rw [HR.out]; rfl, Below.refl _ _⟩
  have HR : Hid (Dl.check (edl l) = Dl.chkF (prE l 0) (edl (l.drop 0))) := by show _ = _; unfold Dl.check; rw [if_neg (by rw [edl_length]; exact h200)]; rfl
  generalize Dl.check (edl l) = R at *
  have HX : Hid (Eds w (.slice a l.length c) l) := h
  have HK : Hid (∀ x ∈ l, x.path.size ≤ 1048576) := hs
  obtain ⟨N, hN⟩ : ∃ N, N = l.length := ⟨_, rfl⟩
  have HN : Hid (N = l.length) := hN
  rw [← hN] at HX hlc1 h200 ⊢
  clear h hs hN hl
  have hgt : ¬ ((N : Int) > 200) := by omega
  go_enter Tryd.func16, Tryd.ntmps16
  go_wp2_with fail
  clear hgt
  go_loopw [14] (fun i wr => ∃ k : Nat, k ≤ N ∧ i = .int .i64 k ∧ Hid (R = Dl.chkF (prE l k) (edl (l.drop k))) ∧ Hid (Below w.heap.size w wr)) (fun i _ => N - (intOf i).toNat)
  case atStart => exact ⟨0, by omega, rfl, HR, Below.refl _ _⟩
  case round =>
    clear HR
    obtain ⟨k, hk, rfl, HE, HB⟩ := hrel
    by_cases hlt : k < N
    · have hkl : k < l.length := by have := HN.out; omega
      obtain ⟨x, hx⟩ : ∃ x, l[k]? = some x := ⟨_, List.getElem?_eq_getElem hkl⟩
      have hxs := HK.out x (List.mem_of_getElem? hx)
      have hst := chk_step hx
      rw [← HE.out, eErr_has] at hst
      have HY : Hid (k ≠ 0 → ∃ y, (∃ i, k = i + 1 ∧ l[i]? = some y)) := fun e => ⟨l[k - 1]'(by omega), k - 1, by omega, List.getElem?_eq_getElem (by omega)⟩
      have HLt : Hid (∀ y, (∃ i, k = i + 1 ∧ l[i]? = some y) → Dl.lateE (prE l k) x.ed = !(Nn.less y.path.data.toList x.path.data.toList).1) := fun y ⟨i, e, hy⟩ => by subst e; exact late_step hy
      have HL0 : Hid (k = 0 → Dl.lateE (prE l k) x.ed = false) := fun e => by subst e; rfl
      obtain ⟨kb, ko, rfl, hkb, u0, u1, u2, u3, u4, u5, u6⟩ := (HX.out.below HB.out).edit k x hx
      have HHb : Hid (hasB x = if x.gone = true then imSame x.item im0 else (x.item.path.toList == x.path.toList)) := rfl
      generalize hLt : Dl.lateE (prE l k) x.ed = LT at *
      obtain ⟨NX, hNX⟩ : ∃ NX, NX = Dl.chkF (prE l (k + 1)) (edl (l.drop (k + 1))) := ⟨_, rfl⟩
      have HNe : Hid (NX = Dl.chkF (prE l (k + 1)) (edl (l.drop (k + 1)))) := hNX
      rw [← hNX] at hst
      generalize hasB x = HH at *
      have hq := fun W => it_cmp W x.item im0
      obtain ⟨xp, xg, ⟨xi, xk, xm, xt, xb⟩⟩ := x
      dsimp only at *
      have heq : ∀ W, (Op.equalIn 10000 29 (.agg #[.string xi, .int .i64 xk, .int .i64 xm, .int .i64 xt, .string xb]) (.agg #[.string ⟨#[]⟩, .int .i64 0, .int .i64 0, .int .i64 0, .string ⟨#[]⟩])).run Tryd.prog W = .ok (imSame ⟨xi, xk, xm, xt, xb⟩ im0) W := hq
      generalize imSame ⟨xi, xk, xm, xt, xb⟩ im0 = SM at *
      have HS : Hid (R = if (if (Nn.split xp.data.toList).2 ≠ 0 then (Nn.split xp.data.toList).2 else if HH = false then 4 else 0) ≠ 0 then (if (Nn.split xp.data.toList).2 ≠ 0 then (Nn.split xp.data.toList).2 else if HH = false then 4 else 0) else if LT = true then 4 else NX) := hst
      obtain ⟨W1, hW1⟩ : ∃ W1, W1 = wr.alloc (.cells #[.string xp, .bool xg, .string xi, .int .i64 xk, .int .i64 xm, .int .i64 xt, .string xb] 31) := ⟨_, rfl⟩
      have HB1 : Hid (Below w.heap.size w W1) := by rw [hW1]; exact HB.out.alloc HB.out.size _
      have HM1 : Hid (W1.heap[wr.heap.size]? = some (.cells #[.string xp, .bool xg, .string xi, .int .i64 xk, .int .i64 xm, .int .i64 xt, .string xb] 31 (0, 0))) := by rw [hW1]; exact heap_alloc_new wr _
      have hsp := rsplit_any xp W1 (by omega)
      unfold SpOut at hsp
      generalize hE : (Nn.split xp.data.toList).2 = SE at *
      obtain ⟨XB, hXB⟩ : ∃ XB, XB = wr.heap.size := ⟨_, rfl⟩
      rw [← hXB] at HM1
      clear hst hE hLt hkl hq hNX
      go_upto_region 6 with fail
      rw [← hW1, ← hXB]
      clear hW1 hXB u0 u1 u2 u3 u4 u5 u6
      obtain ⟨m0, m1, m2, m3, m4, m5, m6, mlt⟩ := ed_at HM1.out
      go_wp2_with fail
      refine hsp.mono ?_
      rintro e w2 ⟨vs, ls, rfl, _, _, _, b2⟩
      have HB2 : Hid (Below w.heap.size w w2) := HB1.out.trans (b2.mono HB1.out.size)
      have HM2 : Hid (w2.heap[XB]? = some (.cells #[.string xp, .bool xg, .string xi, .int .i64 xk, .int .i64 xm, .int .i64 xt, .string xb] 31 (0, 0))) := (b2.block _ mlt).trans HM1.out
      clear hsp b2 m0 m1 m2 m3 m4 m5 m6 mlt HM1 HB1
      obtain ⟨m0, m1, m2, m3, m4, m5, m6, mlt⟩ := ed_at HM2.out
      by_cases c1 : SE = 0
      case neg =>
        have hne : (SE != 0) = true := by rw [bne_iff_ne]; exact c1
        have HRe : Hid (R = SE) := by show _ = _; rw [HS.out, if_pos c1, if_pos c1]
        clear HS c1
        go_wp2_with fail
        go_ret
        exact ⟨by rw [HRe.out]; rfl, HB2.out⟩
      have hne : (SE != 0) = false := by rw [c1]; rfl
      have HS2 : Hid (R = if (if HH = false then (4 : Int) else 0) ≠ 0 then (if HH = false then (4 : Int) else 0) else if LT = true then 4 else NX) := by show _ = _; rw [HS.out, c1]; rfl
      clear HS c1
      obtain ⟨Q, hQ⟩ : ∃ Q, Q = (xi.toList == xp.toList) := ⟨_, rfl⟩
      have hQ1 : (xi.toList == xp.toList) = Q := hQ.symm
      have hQ2 : (xi.toList != xp.toList) = !Q := by rw [bne, hQ1]
      rw [← hQ] at HHb
      clear hQ
      cases HH with
      | false =>
        have HRe : Hid (R = 4) := by show _ = _; rw [HS2.out, if_pos rfl, if_pos (by decide)]
        clear HS2
        cases xg with
        | true =>
          obtain rfl : SM = false := by have h := HHb.out; rw [if_pos rfl] at h; exact h.symm
          go_wp2_with fail
          go_ret
          exact ⟨by rw [HRe.out]; rfl, HB2.out⟩
        | false =>
          obtain rfl : Q = false := by have h := HHb.out; rw [if_neg (by decide)] at h; exact h.symm
          go_wp2_with fail
          go_ret
          exact ⟨by rw [HRe.out]; rfl, HB2.out⟩
      | true =>
        have HS3 : Hid (R = if LT = true then 4 else NX) := by show _ = _; rw [HS2.out]; rfl
        clear HS2
        cases xg with
        | true =>
          obtain rfl : SM = true := by have h := HHb.out; rw [if_pos rfl] at h; exact h.symm
          by_cases c2 : k = 0
          · have HSe : Hid (R = NX) := by show _ = _; rw [HS3.out, HL0.out c2, if_neg (by decide)]
            subst c2
            go_wp2_with fail
            go_roundw
            case measure => simp only [intOf]; omega
            case rel => exact ⟨0 + 1, by omega, by go_num, by show _ = _; rw [HSe.out, HNe.out], HB2⟩
          · obtain ⟨y, hy⟩ := HY.out c2
            have hlt2 := HLt.out y hy
            obtain ⟨i, rfl, hyi⟩ := hy
            have hys := HK.out y (List.mem_of_getElem? hyi)
            have hless := fun W => rless_any y.path xp W (by omega) (by omega)
            have HcY : Hid (∀ W, Gw w2 W → W.cell? ⟨kb, ko + i * 7, none⟩ = some (.string y.path)) := fun W hW => by
              obtain ⟨kb', ko', e, h1, h2, _⟩ := (HX.out.below HB2.out).edit i y hyi
              cases e
              exact (Below.cell hW (p := ⟨kb, _, none⟩) h1).trans h2
            have HcX : Hid (∀ W, Gw w2 W → W.cell? ⟨XB, 0, none⟩ = some (.string xp)) := fun W hW => (Below.cell hW (p := ⟨XB, 0, none⟩) mlt).trans m0
            obtain ⟨LS, hLS⟩ : ∃ LS, LS = (Nn.less y.path.data.toList xp.data.toList).1 := ⟨_, rfl⟩
            obtain ⟨LE, hLE⟩ : ∃ LE, LE = (Nn.less y.path.data.toList xp.data.toList).2 := ⟨_, rfl⟩
            rw [← hLS, ← hLE] at hless
            have HLT : Hid (LT = !LS) := by show _ = _; rw [hlt2, hLS]
            have hij : ((i : Int) + 1 - 1) = i := by omega
            have hgt : ((i : Int) + 1 > 0) := by omega
            have hwr : IntKind.i64.wrap (i : Int) = (i : Int) := by
              simp only [IntKind.wrap, IntKind.bits, IntKind.signed]
              simp
              omega
            have hiN : (i : Int) < (N : Int) := by omega
            clear hlt2 hyi HLt HL0 HY c2 hLS hLE hys
            generalize y.path = yp at *
            go_upto_region 12 with fail
            refine wp_region_rel (G := Gw) (W0 := w2) Gw.refl Gw.trans (by kernel_rfl) (by kernel_rfl) (by kernel_rfl) (Below.refl _ w2).drew ?_
            refine .inl ⟨.slice (some ⟨kb, ko, none⟩) N c, fun v W hW hd => step_run (by first | rfl | simp [Region.wanted, yielded]) _ W (by clear hd; go_simp) rfl (Gw.refl _), ?_⟩
            simp only [Act.put, List.setIfInBounds_toArray, List.set_cons_zero, List.set_cons_succ]
            refine .inl ⟨.int .i64 ((i : Int) + 1), fun v W hW hd => step_run (by first | rfl | simp [Region.wanted, yielded]) _ W (by clear hd; go_simp) rfl (Gw.refl _), ?_⟩
            simp only [Act.put, List.setIfInBounds_toArray, List.set_cons_zero, List.set_cons_succ]
            refine .inl ⟨.int .i64 (i : Int), fun v W hW hd => step_run (by first | rfl | simp [Region.wanted, yielded]) _ W (by clear hd; have he := hij; have hf := hwr; go_simp) rfl (Gw.refl _), ?_⟩
            simp only [Act.put, List.setIfInBounds_toArray, List.set_cons_zero, List.set_cons_succ]
            refine .inl ⟨.pointer (some ⟨kb, ko + i * 7, none⟩), fun v W hW hd => step_run (by first | rfl | simp [Region.wanted, yielded]) _ W (by clear hd; go_simp) rfl (Gw.refl _), ?_⟩
            simp only [Act.put, List.setIfInBounds_toArray, List.set_cons_zero, List.set_cons_succ]
            refine .inl ⟨.pointer (some ⟨kb, ko + i * 7, none⟩), fun v W hW hd => step_run (by first | rfl | simp [Region.wanted, yielded]) _ W (by clear hd; go_simp) rfl (Gw.refl _), ?_⟩
            simp only [Act.put, List.setIfInBounds_toArray, List.set_cons_zero, List.set_cons_succ]
            refine .inl ⟨.string yp, fun v W hW hd => step_run (by first | rfl | simp [Region.wanted, yielded]) _ W (by clear hd; have ce := HcY.out W hW; go_simp) rfl (Gw.refl _), ?_⟩
            simp only [Act.put, List.setIfInBounds_toArray, List.set_cons_zero, List.set_cons_succ]
            refine .inl ⟨.pointer (some ⟨XB, 0, none⟩), fun v W hW hd => step_run (by first | rfl | simp [Region.wanted, yielded]) _ W (by clear hd; go_simp) rfl (Gw.refl _), ?_⟩
            simp only [Act.put, List.setIfInBounds_toArray, List.set_cons_zero, List.set_cons_succ]
            refine .inl ⟨.string xp, fun v W hW hd => step_run (by first | rfl | simp [Region.wanted, yielded]) _ W (by clear hd; have ce := HcX.out W hW; go_simp) rfl (Gw.refl _), ?_⟩
            simp only [Act.put, List.setIfInBounds_toArray, List.set_cons_zero, List.set_cons_succ]
            refine .inl ⟨.tuple #[.bool LS, .int .i64 LE], fun v W hW hd => step_call (by first | rfl | simp [Region.wanted, yielded]) 38 #[.string yp, .string xp] (by clear hd; go_simp) ((hless W).mono fun e w' h => ⟨_, h.1, rfl, h.2⟩), ?_⟩
            simp only [Act.put, List.setIfInBounds_toArray, List.set_cons_zero, List.set_cons_succ]
            refine .inl ⟨.tuple #[.bool LS, .int .i64 LE], fun v W hW hd => step_run (by first | rfl | simp [Region.wanted, yielded]) _ W (by clear hd; go_simp) rfl (Gw.refl _), ?_⟩
            simp only [Act.put, List.setIfInBounds_toArray, List.set_cons_zero, List.set_cons_succ]
            refine .inl ⟨.bool LS, fun v W hW hd => step_run (by first | rfl | simp [Region.wanted, yielded]) _ W (by clear hd; go_simp) rfl (Gw.refl _), ?_⟩
            simp only [Act.put, List.setIfInBounds_toArray, List.set_cons_zero, List.set_cons_succ]
            refine .inl ⟨.int .i64 LE, fun v W hW hd => step_run (by first | rfl | simp [Region.wanted, yielded]) _ W (by clear hd; go_simp) rfl (Gw.refl _), ?_⟩
            simp only [Act.put, List.setIfInBounds_toArray, List.set_cons_zero, List.set_cons_succ]
            refine .inl ⟨.bool LS, fun v W hW hd => step_run (by first | rfl | simp [Region.wanted, yielded]) _ W (by clear hd; go_simp) rfl (Gw.refl _), ?_⟩
            simp only [Act.put, List.setIfInBounds_toArray, List.set_cons_zero, List.set_cons_succ]
            refine .inl ⟨.int .i64 LE, fun v W hW hd => step_run (by first | rfl | simp [Region.wanted, yielded]) _ W (by clear hd; go_simp) rfl (Gw.refl _), ?_⟩
            simp only [Act.put, List.setIfInBounds_toArray, List.set_cons_zero, List.set_cons_succ]
            intro v w4 hW4 hV
            have HB4 : Hid (Below w.heap.size w w4) := HB2.out.trans (Below.mono hW4 HB2.out.size)
            clear hV hW4 HcX HcY hless
            cases LS with
            | false =>
              have HRe : Hid (R = 4) := by show _ = _; rw [HS3.out, HLT.out]; rfl
              clear HLT HS3
              go_wp2_with fail
              go_ret
              exact ⟨by rw [HRe.out]; rfl, HB4.out⟩
            | true =>
              have HRe : Hid (R = NX) := by show _ = _; rw [HS3.out, HLT.out]; rfl
              clear HLT HS3
              go_wp2_with fail
              go_roundw
              case measure => simp only [intOf]; omega
              case rel => exact ⟨i + 1 + 1, by omega, by go_num, by show _ = _; rw [HRe.out, HNe.out], HB4⟩
        | false =>
          obtain rfl : Q = true := by have h := HHb.out; rw [if_neg (by decide)] at h; exact h.symm
          by_cases c2 : k = 0
          · have HSe : Hid (R = NX) := by show _ = _; rw [HS3.out, HL0.out c2, if_neg (by decide)]
            subst c2
            go_wp2_with fail
            go_roundw
            case measure => simp only [intOf]; omega
            case rel => exact ⟨0 + 1, by omega, by go_num, by show _ = _; rw [HSe.out, HNe.out], HB2⟩
          · obtain ⟨y, hy⟩ := HY.out c2
            have hlt2 := HLt.out y hy
            obtain ⟨i, rfl, hyi⟩ := hy
            have hys := HK.out y (List.mem_of_getElem? hyi)
            have hless := fun W => rless_any y.path xp W (by omega) (by omega)
            have HcY : Hid (∀ W, Gw w2 W → W.cell? ⟨kb, ko + i * 7, none⟩ = some (.string y.path)) := fun W hW => by
              obtain ⟨kb', ko', e, h1, h2, _⟩ := (HX.out.below HB2.out).edit i y hyi
              cases e
              exact (Below.cell hW (p := ⟨kb, _, none⟩) h1).trans h2
            have HcX : Hid (∀ W, Gw w2 W → W.cell? ⟨XB, 0, none⟩ = some (.string xp)) := fun W hW => (Below.cell hW (p := ⟨XB, 0, none⟩) mlt).trans m0
            obtain ⟨LS, hLS⟩ : ∃ LS, LS = (Nn.less y.path.data.toList xp.data.toList).1 := ⟨_, rfl⟩
            obtain ⟨LE, hLE⟩ : ∃ LE, LE = (Nn.less y.path.data.toList xp.data.toList).2 := ⟨_, rfl⟩
            rw [← hLS, ← hLE] at hless
            have HLT : Hid (LT = !LS) := by show _ = _; rw [hlt2, hLS]
            have hij : ((i : Int) + 1 - 1) = i := by omega
            have hgt : ((i : Int) + 1 > 0) := by omega
            have hwr : IntKind.i64.wrap (i : Int) = (i : Int) := by
              simp only [IntKind.wrap, IntKind.bits, IntKind.signed]
              simp
              omega
            have hiN : (i : Int) < (N : Int) := by omega
            clear hlt2 hyi HLt HL0 HY c2 hLS hLE hys
            generalize y.path = yp at *
            go_upto_region 12 with fail
            refine wp_region_rel (G := Gw) (W0 := w2) Gw.refl Gw.trans (by kernel_rfl) (by kernel_rfl) (by kernel_rfl) (Below.refl _ w2).drew ?_
            refine .inl ⟨.slice (some ⟨kb, ko, none⟩) N c, fun v W hW hd => step_run (by first | rfl | simp [Region.wanted, yielded]) _ W (by clear hd; go_simp) rfl (Gw.refl _), ?_⟩
            simp only [Act.put, List.setIfInBounds_toArray, List.set_cons_zero, List.set_cons_succ]
            refine .inl ⟨.int .i64 ((i : Int) + 1), fun v W hW hd => step_run (by first | rfl | simp [Region.wanted, yielded]) _ W (by clear hd; go_simp) rfl (Gw.refl _), ?_⟩
            simp only [Act.put, List.setIfInBounds_toArray, List.set_cons_zero, List.set_cons_succ]
            refine .inl ⟨.int .i64 (i : Int), fun v W hW hd => step_run (by first | rfl | simp [Region.wanted, yielded]) _ W (by clear hd; have he := hij; have hf := hwr; go_simp) rfl (Gw.refl _), ?_⟩
            simp only [Act.put, List.setIfInBounds_toArray, List.set_cons_zero, List.set_cons_succ]
            refine .inl ⟨.pointer (some ⟨kb, ko + i * 7, none⟩), fun v W hW hd => step_run (by first | rfl | simp [Region.wanted, yielded]) _ W (by clear hd; go_simp) rfl (Gw.refl _), ?_⟩
            simp only [Act.put, List.setIfInBounds_toArray, List.set_cons_zero, List.set_cons_succ]
            refine .inl ⟨.pointer (some ⟨kb, ko + i * 7, none⟩), fun v W hW hd => step_run (by first | rfl | simp [Region.wanted, yielded]) _ W (by clear hd; go_simp) rfl (Gw.refl _), ?_⟩
            simp only [Act.put, List.setIfInBounds_toArray, List.set_cons_zero, List.set_cons_succ]
            refine .inl ⟨.string yp, fun v W hW hd => step_run (by first | rfl | simp [Region.wanted, yielded]) _ W (by clear hd; have ce := HcY.out W hW; go_simp) rfl (Gw.refl _), ?_⟩
            simp only [Act.put, List.setIfInBounds_toArray, List.set_cons_zero, List.set_cons_succ]
            refine .inl ⟨.pointer (some ⟨XB, 0, none⟩), fun v W hW hd => step_run (by first | rfl | simp [Region.wanted, yielded]) _ W (by clear hd; go_simp) rfl (Gw.refl _), ?_⟩
            simp only [Act.put, List.setIfInBounds_toArray, List.set_cons_zero, List.set_cons_succ]
            refine .inl ⟨.string xp, fun v W hW hd => step_run (by first | rfl | simp [Region.wanted, yielded]) _ W (by clear hd; have ce := HcX.out W hW; go_simp) rfl (Gw.refl _), ?_⟩
            simp only [Act.put, List.setIfInBounds_toArray, List.set_cons_zero, List.set_cons_succ]
            refine .inl ⟨.tuple #[.bool LS, .int .i64 LE], fun v W hW hd => step_call (by first | rfl | simp [Region.wanted, yielded]) 38 #[.string yp, .string xp] (by clear hd; go_simp) ((hless W).mono fun e w' h => ⟨_, h.1, rfl, h.2⟩), ?_⟩
            simp only [Act.put, List.setIfInBounds_toArray, List.set_cons_zero, List.set_cons_succ]
            refine .inl ⟨.tuple #[.bool LS, .int .i64 LE], fun v W hW hd => step_run (by first | rfl | simp [Region.wanted, yielded]) _ W (by clear hd; go_simp) rfl (Gw.refl _), ?_⟩
            simp only [Act.put, List.setIfInBounds_toArray, List.set_cons_zero, List.set_cons_succ]
            refine .inl ⟨.bool LS, fun v W hW hd => step_run (by first | rfl | simp [Region.wanted, yielded]) _ W (by clear hd; go_simp) rfl (Gw.refl _), ?_⟩
            simp only [Act.put, List.setIfInBounds_toArray, List.set_cons_zero, List.set_cons_succ]
            refine .inl ⟨.int .i64 LE, fun v W hW hd => step_run (by first | rfl | simp [Region.wanted, yielded]) _ W (by clear hd; go_simp) rfl (Gw.refl _), ?_⟩
            simp only [Act.put, List.setIfInBounds_toArray, List.set_cons_zero, List.set_cons_succ]
            refine .inl ⟨.bool LS, fun v W hW hd => step_run (by first | rfl | simp [Region.wanted, yielded]) _ W (by clear hd; go_simp) rfl (Gw.refl _), ?_⟩
            simp only [Act.put, List.setIfInBounds_toArray, List.set_cons_zero, List.set_cons_succ]
            refine .inl ⟨.int .i64 LE, fun v W hW hd => step_run (by first | rfl | simp [Region.wanted, yielded]) _ W (by clear hd; go_simp) rfl (Gw.refl _), ?_⟩
            simp only [Act.put, List.setIfInBounds_toArray, List.set_cons_zero, List.set_cons_succ]
            intro v w4 hW4 hV
            have HB4 : Hid (Below w.heap.size w w4) := HB2.out.trans (Below.mono hW4 HB2.out.size)
            clear hV hW4 HcX HcY hless
            cases LS with
            | false =>
              have HRe : Hid (R = 4) := by show _ = _; rw [HS3.out, HLT.out]; rfl
              clear HLT HS3
              go_wp2_with fail
              go_ret
              exact ⟨by rw [HRe.out]; rfl, HB4.out⟩
            | true =>
              have HRe : Hid (R = NX) := by show _ = _; rw [HS3.out, HLT.out]; rfl
              clear HLT HS3
              go_wp2_with fail
              go_roundw
              case measure => simp only [intOf]; omega
              case rel => exact ⟨i + 1 + 1, by omega, by go_num, by show _ = _; rw [HRe.out, HNe.out], HB4⟩
    · obtain rfl : k = N := by omega
      have HRe : Hid (R = 0) := by
        have e : l.drop k = [] := by rw [HN.out]; exact List.drop_of_length_le (Nat.le_refl _)
        show _ = _
        rw [HE.out, e]; rfl
      go_wp2_with fail
      go_ret
      exact ⟨by rw [HRe.out]; rfl, HB.out⟩

end Go.Proofs.YthpcbbkpjggjbaaDoor

namespace Go.Proofs.YthpcbbkpjggjbaaDoor
open Go.RowKit
set_option maxRecDepth 4000

set_option maxHeartbeats 4000000 in
theorem ritem_any (x : Im) (w : World) (hp : x.path.size ≤ 4194304) (hbs : x.bytes.size ≤ 140737488351232) :
    Calls Tryd.prog 46 #[imV x] w fun e w' => e = .returned (.int .i64 (Wk.iErr x.it)) ∧ Below w.heap.size w w' := by
  obtain ⟨path, kind, mode, time, bytes⟩ := x
  obtain ⟨W1, hW1⟩ : ∃ W1, W1 = w.alloc (.cells #[.string path, .int .i64 kind, .int .i64 mode, .int .i64 time, .string bytes] 29) := ⟨_, rfl⟩
  have hB1 : Below w.heap.size w W1 := by rw [hW1]; exact (Below.refl _ w).alloc (Nat.le_refl _) _
  have HB1 : Hid (Below w.heap.size w W1) := hB1
  have HM : Hid (W1.heap[w.heap.size]? = some (.cells #[.string path, .int .i64 kind, .int .i64 mode, .int .i64 time, .string bytes] 29 (0, 0))) := by rw [hW1]; exact heap_alloc_new w _
  have hsp := rsplit_any path W1 hp
  obtain ⟨E, hE⟩ : ∃ E, E = Wk.iErr (Im.it ⟨path, kind, mode, time, bytes⟩) := ⟨_, rfl⟩
  rw [← hE]
  have hbz : bytes.data.toList.length = bytes.size := (Lib.size_eq bytes).symm
  have HE : Hid (E = if (Nn.split path.data.toList).2 ≠ 0 then (Nn.split path.data.toList).2 else if (Nn.split path.data.toList).1 = [] then 8 else if kind ≠ 1 ∧ kind ≠ 2 ∧ kind ≠ 3 then 5 else if mode < 0 ∨ 511 < mode then 1
      else if (kind = 1 ∧ 4096 < bytes.data.toList.length) ∨ (kind = 2 ∧ bytes.data.toList ≠ []) ∨ (kind = 3 ∧ 1024 < bytes.data.toList.length) then 2 else if kind = 3 ∧ bytes.data.toList = [] then 4 else 0) := hE
  rw [hbz] at HE
  unfold SpOut at hsp
  rcases hS : Nn.split path.data.toList with ⟨sl, se⟩
  rw [hS] at hsp HE
  dsimp only at hsp HE
  have hbz2 : bytes.size ≤ 140737488351232 := hbs
  obtain ⟨m0, m1, m2, m3, m4, mlt⟩ := five_at HM.out
  have hemp : bytes.toList.isEmpty = true ↔ bytes.data.toList = [] := by rw [Lib.toList_data, List.isEmpty_iff]
  have HEm : Hid (bytes.toList.isEmpty = true ↔ bytes.data.toList = []) := hemp
  clear hE hbz hS hB1 hp hbs hemp
  go_enter Tryd.func46, Tryd.ntmps46
  go_wp2_with fail
  rw [← hW1]
  clear hW1
  refine hsp.mono ?_
  rintro e w2 ⟨v, l, rfl, hdl, htx, _, b2⟩
  have HB2 : Hid (Below w.heap.size w w2) := HB1.out.trans (b2.mono HB1.out.size)
  obtain ⟨n0, n1, n2, n3, n4, nlt⟩ := five_at ((b2.block _ (Array.getElem?_eq_some_iff.1 HM.out).1).trans HM.out)
  obtain ⟨a, c, rfl⟩ := htx.slice
  have hl0 : l.length = 0 ↔ sl = [] := by
    rw [← dl_length, hdl]
    exact List.length_eq_zero_iff
  have HL0 : Hid (l.length = 0 ↔ sl = []) := hl0
  generalize l.length = LN at *
  clear hsp b2 htx hdl m0 m1 m2 m3 m4 mlt hl0
  by_cases c1 : se = 0
  case neg =>
    have hne : (se != 0) = true := by rw [bne_iff_ne]; exact c1
    have HEe : Hid (E = se) := by show _ = _; rw [HE.out, if_pos c1]
    clear HE c1
    go_wp2_with fail
    go_ret
    exact ⟨by rw [HEe.out]; rfl, HB2.out⟩
  have hne : (se != 0) = false := by rw [c1]; rfl
  by_cases c2 : LN = 0
  · have HEe : Hid (E = 8) := by show _ = _; rw [HE.out, if_neg (fun q => q c1), if_pos (HL0.out.1 c2)]
    subst c2
    clear HE c1
    go_wp2_with fail
    go_ret
    exact ⟨by rw [HEe.out]; rfl, HB2.out⟩
  have c2' : ¬ sl = [] := fun q => c2 (HL0.out.2 q)
  have hl1 : (((LN : Nat) : Int) == 0) = false := by rw [beq_eq_false_iff_ne]; omega
  have HE2 : Hid (E = if kind ≠ 1 ∧ kind ≠ 2 ∧ kind ≠ 3 then 5 else if mode < 0 ∨ 511 < mode then 1
      else if (kind = 1 ∧ 4096 < bytes.size) ∨ (kind = 2 ∧ bytes.data.toList ≠ []) ∨ (kind = 3 ∧ 1024 < bytes.size) then 2 else if kind = 3 ∧ bytes.data.toList = [] then 4 else 0) := by
    show _ = _; rw [HE.out, if_neg (fun q => q c1), if_neg c2']
  clear HE c1 c2 c2' HL0
  by_cases k0 : kind ≠ 1 ∧ kind ≠ 2 ∧ kind ≠ 3
  · have HEe : Hid (E = 5) := by show _ = _; rw [HE2.out, if_pos k0]
    have e1 : (kind != 1) = true := by rw [bne_iff_ne]; exact k0.1
    have e2 : (kind != 2) = true := by rw [bne_iff_ne]; exact k0.2.1
    have e3 : (kind != 3) = true := by rw [bne_iff_ne]; exact k0.2.2
    clear HE2 k0
    go_wp2_with fail
    go_ret
    exact ⟨by rw [HEe.out]; rfl, HB2.out⟩
  have hk : kind = 1 ∨ kind = 2 ∨ kind = 3 := by omega
  have HE3 : Hid (E = if mode < 0 ∨ 511 < mode then 1
      else if (kind = 1 ∧ 4096 < bytes.size) ∨ (kind = 2 ∧ bytes.data.toList ≠ []) ∨ (kind = 3 ∧ 1024 < bytes.size) then 2 else if kind = 3 ∧ bytes.data.toList = [] then 4 else 0) := by
    show _ = _; rw [HE2.out, if_neg k0]
  clear HE2 k0
  rcases hk with rfl | rfl | rfl
  · by_cases q1 : mode < 0
    · have HEe : Hid (E = 1) := by show _ = _; rw [HE3.out, if_pos (.inl q1)]
      clear HE3
      go_wp2_with fail
      go_ret
      exact ⟨by rw [HEe.out]; rfl, HB2.out⟩
    by_cases q2 : 511 < mode
    · have HEe : Hid (E = 1) := by show _ = _; rw [HE3.out, if_pos (.inr q2)]
      clear HE3
      go_wp2_with fail
      go_ret
      exact ⟨by rw [HEe.out]; rfl, HB2.out⟩
    by_cases q3 : 4096 < bytes.size
    · have HEe : Hid (E = 2) := by show _ = _; rw [HE3.out, if_neg (by omega), if_pos (.inl ⟨rfl, q3⟩)]
      clear HE3
      go_wp2_with fail
      go_ret
      exact ⟨by rw [HEe.out]; rfl, HB2.out⟩
    · have HEe : Hid (E = 0) := by show _ = _; rw [HE3.out, if_neg (by omega), if_neg (by omega), if_neg (by omega)]
      clear HE3
      go_wp2_with fail
      go_ret
      exact ⟨by rw [HEe.out]; rfl, HB2.out⟩
  · by_cases q1 : mode < 0
    · have HEe : Hid (E = 1) := by show _ = _; rw [HE3.out, if_pos (.inl q1)]
      clear HE3
      go_wp2_with fail
      go_ret
      exact ⟨by rw [HEe.out]; rfl, HB2.out⟩
    by_cases q2 : 511 < mode
    · have HEe : Hid (E = 1) := by show _ = _; rw [HE3.out, if_pos (.inr q2)]
      clear HE3
      go_wp2_with fail
      go_ret
      exact ⟨by rw [HEe.out]; rfl, HB2.out⟩
    cases hb : bytes.toList.isEmpty with
    | false =>
      have hb' : ¬ bytes.data.toList = [] := fun q => by have := HEm.out.2 q; rw [hb] at this; cases this
      have HEe : Hid (E = 2) := by show _ = _; rw [HE3.out, if_neg (by omega), if_pos (.inr (.inl ⟨rfl, hb'⟩))]
      clear HE3
      go_wp2_with fail
      go_ret
      exact ⟨by rw [HEe.out]; rfl, HB2.out⟩
    | true =>
      have hb' : bytes.data.toList = [] := HEm.out.1 hb
      have HEe : Hid (E = 0) := by show _ = _; rw [HE3.out, if_neg (by omega), if_neg (by rintro (q | q | q); exact absurd q.1 (by decide); exact q.2 hb'; exact absurd q.1 (by decide)), if_neg (by rintro q; exact absurd q.1 (by decide))]
      clear HE3
      go_wp2_with fail
      go_ret
      exact ⟨by rw [HEe.out]; rfl, HB2.out⟩
  · by_cases q1 : mode < 0
    · have HEe : Hid (E = 1) := by show _ = _; rw [HE3.out, if_pos (.inl q1)]
      clear HE3
      go_wp2_with fail
      go_ret
      exact ⟨by rw [HEe.out]; rfl, HB2.out⟩
    by_cases q2 : 511 < mode
    · have HEe : Hid (E = 1) := by show _ = _; rw [HE3.out, if_pos (.inr q2)]
      clear HE3
      go_wp2_with fail
      go_ret
      exact ⟨by rw [HEe.out]; rfl, HB2.out⟩
    by_cases q3 : 1024 < bytes.size
    · have HEe : Hid (E = 2) := by show _ = _; rw [HE3.out, if_neg (by omega), if_pos (.inr (.inr ⟨rfl, q3⟩))]
      clear HE3
      go_wp2_with fail
      go_ret
      exact ⟨by rw [HEe.out]; rfl, HB2.out⟩
    have HE4 : Hid (E = if bytes.data.toList = [] then 4 else 0) := by
      show _ = _
      rw [HE3.out, if_neg (by omega), if_neg (by omega)]
      simp
    clear HE3
    cases hb : bytes.toList.isEmpty with
    | false =>
      have HEe : Hid (E = 0) := by show _ = _; rw [HE4.out, if_neg (fun q => by have := HEm.out.2 q; rw [hb] at this; cases this)]
      clear HE4
      go_wp2_with fail
      go_ret
      exact ⟨by rw [HEe.out]; rfl, HB2.out⟩
    | true =>
      have HEe : Hid (E = 4) := by show _ = _; rw [HE4.out, if_pos (HEm.out.1 hb)]
      clear HE4
      go_wp2_with fail
      go_ret
      exact ⟨by rw [HEe.out]; rfl, HB2.out⟩

end Go.Proofs.YthpcbbkpjggjbaaDoor

namespace Go.Proofs.YthpcbbkpjggjbaaDoor
open Go.RowKit
set_option maxRecDepth 4000

/-- is the directory there among the first so many? -/
def fnd (l : List Im) (i : Nat) (U : ByteArray) : Bool := decide (U.data.toList = [47]) || (l.take i).any fun y => decide (y.path = U) && decide (y.kind = 2)

theorem fnd_lies (l : List Im) (i : Nat) (x : Im) (U : ByteArray) (hU : U.data.toList = Wk.up x.it) : fnd l i U = Wk.lies (its (l.take i)) x.it := by
  unfold fnd Wk.lies its
  rw [List.any_map, hU]
  congr 2
  funext y
  have e : decide (y.path = U) = decide (y.it.path = Wk.up x.it) := by
    rw [decide_eq_decide, ← hU]
    show _ ↔ y.path.data.toList = _
    constructor
    · intro h; rw [h]
    · intro h
      have := congrArg List.toArray h
      exact ByteArray.ext (by simpa using this)
  rw [e]
  rfl

theorem fnd_step {l : List Im} {i : Nat} {y : Im} (hy : l[i]? = some y) (U : ByteArray) : fnd l (i + 1) U = (fnd l i U || (decide (y.path = U) && decide (y.kind = 2))) := by
  unfold fnd
  rw [List.take_add_one, hy, Option.toList_some, List.any_append]
  simp [Bool.or_assoc]

theorem tx_front {w : World} {a : Option Addr} {n c : Nat} {l : List ByteArray} (h : Tx w (.slice a n c) l) (k : Nat) (hk : k ≤ l.length) : Tx w (.slice a k c) (l.take k) := by
  rcases h.at_ with ⟨_, rfl⟩ | ⟨bk, o, cap, h1, h3, h4⟩
  · obtain rfl : k = 0 := by simpa using hk
    exact ⟨.inl ⟨⟨_, _, rfl⟩, rfl⟩⟩
  · simp at h1
    obtain ⟨rfl, rfl, rfl⟩ := h1
    have hlt : (l.take k).length = k := by rw [List.length_take]; omega
    refine ⟨.inr ⟨bk, o, c, by rw [hlt], h3, fun j hj => ?_⟩⟩
    rw [hlt] at hj
    rw [h4 j (by omega), List.getD_eq_getElem?_getD, List.getD_eq_getElem?_getD, List.getElem?_take, if_pos hj]

set_option maxHeartbeats 4000000 in
set_option maxRecDepth 10000 in
theorem rworld_any (v : Value) (l : List Im) (w : World) (h : Ims w v l) (hs : ∀ x ∈ l, x.path.size ≤ 1048576 ∧ x.bytes.size ≤ 1048576) :
    Calls Tryd.prog 24 #[v] w fun e w' => e = .returned (.int .i64 (Wk.world (its l))) ∧ Below w.heap.size w w' := by
  obtain ⟨a, c, rfl, hlc1, hlc2⟩ := h.slice
  by_cases h100 : 100 < l.length
  · have HE : Hid (Wk.world (its l) = 2) := by show _ = _; unfold Wk.world; rw [if_pos (by rw [its_length]; exact h100)]
    have hg : (l.length : Int) > 100 := by omega
    generalize l.length = n at *
    go_enter Tryd.func24, Tryd.ntmps24
    go_wp2_with fail
    go_ret
    exact ⟨by rw [HE.out]; rfl, Below.refl _ _⟩
  have HE0 : Hid (Wk.world (its l) = Wk.wErrF (its (l.take 0)) (its (l.drop 0))) := by
    show _ = _; unfold Wk.world; rw [if_neg (by rw [its_length]; exact h100)]; rfl
  obtain ⟨R, hR⟩ : ∃ R, R = Wk.world (its l) := ⟨_, rfl⟩
  rw [← hR] at HE0 ⊢
  have HX : Hid (Ims w (.slice a l.length c) l) := h
  have HK : Hid (∀ x ∈ l, x.path.size ≤ 1048576 ∧ x.bytes.size ≤ 1048576) := hs
  have hl100 : ¬ (l.length : Int) > 100 := by omega
  obtain ⟨N, hN⟩ : ∃ N, N = l.length := ⟨_, rfl⟩
  have HN : Hid (N = l.length) := hN
  rw [← hN] at HX hl100 hlc1 ⊢
  clear h hs h100 hR hN
  go_enter Tryd.func24, Tryd.ntmps24
  go_wp2_with fail
  go_loopw [20] (fun i wr => ∃ (j : Nat), j ≤ N ∧ i = .int .i64 j ∧ Hid (R = Wk.wErrF (its (l.take j)) (its (l.drop j))) ∧ Hid (Below w.heap.size w wr)) (fun i _ => N - (intOf i).toNat)
  case atStart => exact ⟨0, by omega, rfl, HE0, Below.refl _ _⟩
  case round =>
    clear HE0
    obtain ⟨j, hj, rfl, HE, HB⟩ := hrel
    by_cases hlt : j < N
    · have hjl : j < l.length := by rw [← HN.out]; exact hlt
      obtain ⟨x, hx⟩ : ∃ x, l[j]? = some x := ⟨_, List.getElem?_eq_getElem hjl⟩
      have hxo := HK.out x (List.mem_of_getElem? hx)
      have hst := wErr_step hx
      have HSt : Hid (R = if Wk.iErr x.it ≠ 0 then Wk.iErr x.it else if Wk.late (its (l.take j)) x.it = true then 4 else if Wk.lies (its (l.take j)) x.it = false then 9 else Wk.wErrF (its (l.take (j + 1))) (its (l.drop (j + 1)))) := by
        show _ = _; rw [HE.out, hst]
      have hXr := HX.out.below HB.out
      rw [HN.out] at hXr
      obtain ⟨kb, ko, rfl, hkb, x0, x1, x2, x3, x4⟩ := hXr.item j x hx
      obtain ⟨WA, hWA⟩ : ∃ WA, WA = wr.alloc (.cells #[.string x.path, .int .i64 x.kind, .int .i64 x.mode, .int .i64 x.time, .string x.bytes] 29) := ⟨_, rfl⟩
      have hbA : Below wr.heap.size wr WA := by rw [hWA]; exact (Below.refl _ wr).alloc (Nat.le_refl _) _
      have HM : Hid (WA.heap[wr.heap.size]? = some (.cells #[.string x.path, .int .i64 x.kind, .int .i64 x.mode, .int .i64 x.time, .string x.bytes] 29 (0, 0))) := by rw [hWA]; exact heap_alloc_new wr _
      have HBA : Hid (Below w.heap.size w WA) := HB.out.trans (hbA.mono HB.out.size)
      have hci := ritem_any x WA (by omega) (by omega)
      have HHx : Hid (l[j]? = some x) := hx
      have HPz : Hid (x.path.size ≤ 1048576) := hxo.1
      have HIE : Hid (Wk.iErr x.it = 0 → Wk.Ok1 x.it) := fun q => Wk.iErr_ok q
      obtain ⟨PB, hPB⟩ : ∃ PB, PB = wr.heap.size := ⟨_, rfl⟩
      rw [← hPB] at HM
      clear hst hXr hbA hx hxo HE
      go_upto_region 6 with fail
      rw [← hWA, ← hPB]
      obtain ⟨y0, y1, y2, y3, y4, ylt⟩ := five_at HM.out
      clear hWA hPB x0 x1 x2 x3 x4 hkb
      go_wp2_with fail
      refine hci.mono ?_
      rintro e w2 ⟨rfl, b2⟩
      have HB2 : Hid (Below w.heap.size w w2) := HBA.out.trans (b2.mono HBA.out.size)
      have HM2 : Hid (w2.heap[PB]? = some (.cells #[.string x.path, .int .i64 x.kind, .int .i64 x.mode, .int .i64 x.time, .string x.bytes] 29 (0, 0))) := (b2.block _ (Array.getElem?_eq_some_iff.1 HM.out).1).trans HM.out
      clear hci b2 y0 y1 y2 y3 y4 ylt HM HBA
      by_cases hE : Wk.iErr x.it = 0
      case neg =>
        have HRe : Hid (R = Wk.iErr x.it) := by show _ = _; rw [HSt.out, if_pos hE]
        have hne : (Wk.iErr x.it != 0) = true := by rw [bne_iff_ne]; exact hE
        generalize Wk.iErr x.it = ER at *
        clear hE HSt HIE
        go_wp2_with fail
        go_ret
        exact ⟨by rw [HRe.out]; rfl, HB2.out⟩
      have hok := HIE.out hE
      have HOk : Hid (Wk.Ok1 x.it) := hok
      have HSt2 : Hid (R = if Wk.late (its (l.take j)) x.it = true then 4 else if Wk.lies (its (l.take j)) x.it = false then 9 else Wk.wErrF (its (l.take (j + 1))) (its (l.drop (j + 1)))) := by
        show _ = _; rw [HSt.out, if_neg (fun q => q hE)]
      rw [hE]
      clear HSt HIE hE hok
      go_upto_if 31 with fail
      go_cut [6, 7] from 21 to 86 (fun y z wx => Hid (Wk.late (its (l.take j)) x.it = false) ∧ Hid (Below w2.heap.size w2 wx))
      case first =>
        by_cases hj0 : j = 0
        · subst hj0
          have hd : decide ((0 : Int) > 0) = false := by decide
          go_wp2_with fail
          go_meet
          exact ⟨rfl, Below.refl _ _⟩
        · obtain ⟨i, rfl⟩ : ∃ i, j = i + 1 := ⟨j - 1, by omega⟩
          have hil : i < l.length := by omega
          obtain ⟨y, hy⟩ : ∃ y, l[i]? = some y := ⟨_, List.getElem?_eq_getElem hil⟩
          have hyo := HK.out y (List.mem_of_getElem? hy)
          have hla := late_at (x := x) hy
          have hX2 := HX.out.below HB2.out
          rw [HN.out] at hX2
          obtain ⟨kb', ko', ee, hkb', u0, _⟩ := hX2.item i y hy
          cases ee
          have hless := fun W => rless_any y.path x.path W (by omega) (by have := HPz.out; omega)
          obtain ⟨m0, _, _, _, _, mlt⟩ := five_at HM2.out
          obtain ⟨LS, hLS⟩ : ∃ LS, LS = (Nn.less y.path.data.toList x.path.data.toList).1 := ⟨_, rfl⟩
          obtain ⟨LE, hLE⟩ : ∃ LE, LE = (Nn.less y.path.data.toList x.path.data.toList).2 := ⟨_, rfl⟩
          rw [← hLS, ← hLE] at hless
          rw [← hLS] at hla
          have HLA : Hid (Wk.late (its (l.take (i + 1))) x.it = !LS) := hla
          have hd : decide (((i : Int) + 1) > 0) = true := decide_eq_true (by omega)
          have hij : ((i : Int) + 1 - 1) = i := by omega
          have hgt : ((i : Int) + 1 > 0) := by omega
          have hwr : IntKind.i64.wrap (i : Int) = (i : Int) := by
            simp only [IntKind.wrap, IntKind.bits, IntKind.signed]
            simp
            omega
          have HcX : Hid (∀ W, Gw w2 W → W.cell? ⟨PB, 0, none⟩ = some (.string x.path)) := fun W hW => (Below.cell hW (p := ⟨PB, 0, none⟩) mlt).trans m0
          have HcY : Hid (∀ W, Gw w2 W → W.cell? ⟨kb, ko + i * 5, none⟩ = some (.string y.path)) := fun W hW => (Below.cell hW (p := ⟨kb, ko + i * 5, none⟩) hkb').trans u0
          have hiN : (i : Int) < (N : Int) := by omega
          clear hla hX2 hyo hy hil hj0 hjl HHx hLS hLE u0 m0 mlt hkb'
          generalize y.path = yp at *
          go_upto_region 10 with fail
          refine wp_region_rel (G := Gw) (W0 := w2) Gw.refl Gw.trans (by kernel_rfl) (by kernel_rfl) (by kernel_rfl) (Below.refl _ w2).drew ?_
          refine .inl ⟨.slice (some ⟨kb, ko, none⟩) N c, fun v W hW hd => step_run rfl _ W (by clear hd; go_simp) rfl (Gw.refl _), ?_⟩
          simp only [Act.put, List.setIfInBounds_toArray, List.set_cons_zero, List.set_cons_succ]
          refine .inl ⟨.int .i64 ((i : Int) + 1), fun v W hW hd => step_run rfl _ W (by clear hd; go_simp) rfl (Gw.refl _), ?_⟩
          simp only [Act.put, List.setIfInBounds_toArray, List.set_cons_zero, List.set_cons_succ]
          refine .inl ⟨.int .i64 (i : Int), fun v W hW hd => step_run rfl _ W (by clear hd; have he := hij; have hf := hwr; go_simp) rfl (Gw.refl _), ?_⟩
          simp only [Act.put, List.setIfInBounds_toArray, List.set_cons_zero, List.set_cons_succ]
          refine .inl ⟨.pointer (some ⟨kb, ko + i * 5, none⟩), fun v W hW hd => step_run rfl _ W (by clear hd; go_simp) rfl (Gw.refl _), ?_⟩
          simp only [Act.put, List.setIfInBounds_toArray, List.set_cons_zero, List.set_cons_succ]
          refine .inl ⟨.pointer (some ⟨kb, ko + i * 5, none⟩), fun v W hW hd => step_run rfl _ W (by clear hd; go_simp) rfl (Gw.refl _), ?_⟩
          simp only [Act.put, List.setIfInBounds_toArray, List.set_cons_zero, List.set_cons_succ]
          refine .inl ⟨.string yp, fun v W hW hd => step_run rfl _ W (by clear hd; have ce := HcY.out W hW; go_simp) rfl (Gw.refl _), ?_⟩
          simp only [Act.put, List.setIfInBounds_toArray, List.set_cons_zero, List.set_cons_succ]
          refine .inl ⟨.pointer (some ⟨PB, 0, none⟩), fun v W hW hd => step_run rfl _ W (by clear hd; go_simp) rfl (Gw.refl _), ?_⟩
          simp only [Act.put, List.setIfInBounds_toArray, List.set_cons_zero, List.set_cons_succ]
          refine .inl ⟨.string x.path, fun v W hW hd => step_run rfl _ W (by clear hd; have ce := HcX.out W hW; go_simp) rfl (Gw.refl _), ?_⟩
          simp only [Act.put, List.setIfInBounds_toArray, List.set_cons_zero, List.set_cons_succ]
          refine .inl ⟨.tuple #[.bool LS, .int .i64 LE], fun v W hW hd => step_call rfl 38 #[.string yp, .string x.path] (by clear hd; go_simp) ((hless W).mono fun e w' h => ⟨_, h.1, rfl, h.2⟩), ?_⟩
          simp only [Act.put, List.setIfInBounds_toArray, List.set_cons_zero, List.set_cons_succ]
          refine .inl ⟨.tuple #[.bool LS, .int .i64 LE], fun v W hW hd => step_run rfl _ W (by clear hd; go_simp) rfl (Gw.refl _), ?_⟩
          simp only [Act.put, List.setIfInBounds_toArray, List.set_cons_zero, List.set_cons_succ]
          refine .inl ⟨.bool LS, fun v W hW hd => step_run rfl _ W (by clear hd; go_simp) rfl (Gw.refl _), ?_⟩
          simp only [Act.put, List.setIfInBounds_toArray, List.set_cons_zero, List.set_cons_succ]
          refine .inl ⟨.int .i64 LE, fun v W hW hd => step_run rfl _ W (by clear hd; go_simp) rfl (Gw.refl _), ?_⟩
          simp only [Act.put, List.setIfInBounds_toArray, List.set_cons_zero, List.set_cons_succ]
          refine .inl ⟨.bool LS, fun v W hW hd => step_run rfl _ W (by clear hd; go_simp) rfl (Gw.refl _), ?_⟩
          simp only [Act.put, List.setIfInBounds_toArray, List.set_cons_zero, List.set_cons_succ]
          refine .inl ⟨.int .i64 LE, fun v W hW hd => step_run rfl _ W (by clear hd; go_simp) rfl (Gw.refl _), ?_⟩
          simp only [Act.put, List.setIfInBounds_toArray, List.set_cons_zero, List.set_cons_succ]
          intro v w3 hW3 hV
          have HB3 : Hid (Below w2.heap.size w2 w3) := hW3
          clear hV hW3 hless HcX HcY
          cases LS with
          | true =>
            go_wp2_with fail
            go_meet
            exact ⟨HLA.out, HB3.out⟩
          | false =>
            have HRe : Hid (R = 4) := by
              show _ = _
              rw [HSt2.out, HLA.out, if_pos (by decide)]
            have HBe : Hid (Below w.heap.size w w3) := HB2.out.trans (HB3.out.mono HB2.out.size)
            clear HSt2
            go_wp2_with fail
            go_ret
            exact ⟨by rw [HRe.out]; rfl, HBe.out⟩
      case rest =>
      obtain ⟨HL, HBc⟩ := hcut
      have HSt3 : Hid (R = if Wk.lies (its (l.take j)) x.it = false then 9 else Wk.wErrF (its (l.take (j + 1))) (its (l.drop (j + 1)))) := by
        show _ = _
        rw [HSt2.out, HL.out, if_neg (by decide)]
      have HB3 : Hid (Below w.heap.size w wc) := HB2.out.trans (HBc.out.mono HB2.out.size)
      have hM3 := (HBc.out.block _ (Array.getElem?_eq_some_iff.1 HM2.out).1).trans HM2.out
      obtain ⟨y0, y1, y2, y3, y4, ylt⟩ := five_at hM3
      have hsp := rsplit_any x.path wc (by have := HPz.out; omega)
      unfold SpOut at hsp
      have hs0 : (Nn.split x.path.data.toList).2 = 0 := HOk.out.spl
      rw [hs0] at hsp
      clear HSt2 HL hM3 hs0
      go_wp2_with fail
      refine hsp.mono ?_
      rintro e w4 ⟨v4, l4, rfl, hdl, htx, hcp, b4⟩
      have HB4 : Hid (Below w.heap.size w w4) := HB3.out.trans (b4.mono HB3.out.size)
      have hnm : x.it.nms = dl l4 := hdl.symm
      have hne4 : l4 ≠ [] := fun e => HOk.out.ne (by rw [hnm, e]; rfl)
      obtain ⟨a4, c4, rfl⟩ := htx.slice
      obtain ⟨m, hm⟩ : ∃ m, l4.length = m + 1 := ⟨l4.length - 1, by have := List.length_pos_iff.2 hne4; omega⟩
      have htk := tx_front htx m (by omega)
      have hdt : dl (l4.take m) = x.it.nms.dropLast := by
        rw [hnm, List.dropLast_eq_take, dl_length, hm]
        simp [dl]
      have heu := Wk.errs_up HOk.out
      rw [← hdt] at heu
      have h8 := Wk.errsF_few _ 0 heu (by omega)
      rw [dl_length, List.length_take, hm] at h8
      have hjo := rjoin_any (.slice a4 m c4) (l4.take m) w4 htk (by rw [List.length_take]; omega) fun s hs => by
        have := Nn.nm_long (Nn.errs_ok heu _ (List.mem_map_of_mem hs))
        rw [Lib.size_eq]; omega
      unfold JnOut at hjo
      have hjn : Nn.join (dl (l4.take m)) = (Nn.joinB (dl (l4.take m)), 0) := by unfold Nn.join; rw [if_neg (by simpa using heu)]
      rw [hjn] at hjo
      obtain ⟨UP, hUP⟩ : ∃ UP : ByteArray, UP = ⟨(Nn.joinB (dl (l4.take m))).toArray⟩ := ⟨_, rfl⟩
      have HUP : Hid (UP.data.toList = Wk.up x.it) := by
        show _ = _
        rw [hUP, hdt]; rfl
      unfold St at hjo
      dsimp only at hjo
      rw [← hUP] at hjo
      have hwr : IntKind.i64.wrap (m : Int) = (m : Int) := by
        simp only [IntKind.wrap, IntKind.bits, IntKind.signed]
        simp
        omega
      have hij : ((m : Int) + 1 - 1) = m := by omega
      have hmc : m ≤ c4 := by
        rcases htx.at_ with ⟨_, e⟩ | ⟨bk, o, cap, h1, _, _⟩
        · exact absurd e hne4
        · simp at h1
          obtain ⟨rfl, rfl⟩ := h1
          have := hcp _ _ _ rfl
          omega
      rw [hm]
      clear hsp b4 hdl hcp hnm hne4 htk hdt heu hjn hUP htx y0 y1 y2 y3 y4 ylt
      generalize hl4 : l4.length = LL at *
      subst hm
      clear hl4
      go_wp2_with fail
      refine hjo.mono ?_
      rintro e w5 ⟨rfl, b5⟩
      have HB5 : Hid (Below w.heap.size w w5) := HB4.out.trans (b5.mono HB4.out.size)
      clear hjo b5 hij hwr
      go_wp2_with fail
      have HF0 : Hid (Value.bool (UP.toList == [47]) = .bool (fnd l 0 UP)) := by
        show _ = _
        unfold fnd
        rw [Lib.toList_data]
        by_cases e : UP.data.toList = [47] <;> simp [e]
      go_loopw [12, 67] (fun f i wx => ∃ ii : Nat, ii ≤ j ∧ i = .int .i64 ii ∧ f = .bool (fnd l ii UP) ∧ Hid (Below w.heap.size w wx)) (fun _ i _ => j - (intOf i).toNat)
      case atStart => exact ⟨0, by omega, rfl, HF0.out, HB5⟩
      case round =>
        obtain ⟨ii, hii, rfl, rfl, HBx⟩ := hrel
        by_cases hlt2 : ii < j
        · have hil : ii < l.length := by omega
          obtain ⟨y, hy⟩ : ∃ y, l[ii]? = some y := ⟨_, List.getElem?_eq_getElem hil⟩
          have hstep := fnd_step hy UP
          have hX2 := HX.out.below HBx.out
          rw [HN.out] at hX2
          obtain ⟨kb', ko', ee, hkb', u0', u1', u2', u3', u4'⟩ := hX2.item ii y hy
          cases ee
          obtain ⟨WY, hWY⟩ : ∃ WY, WY = wr.alloc (.cells #[.string y.path, .int .i64 y.kind, .int .i64 y.mode, .int .i64 y.time, .string y.bytes] 29) := ⟨_, rfl⟩
          have HBy : Hid (Below w.heap.size w WY) := by rw [hWY]; exact HBx.out.alloc HBx.out.size _
          have hMy : WY.heap[wr.heap.size]? = some (.cells #[.string y.path, .int .i64 y.kind, .int .i64 y.mode, .int .i64 y.time, .string y.bytes] 29 (0, 0)) := by rw [hWY]; exact heap_alloc_new wr _
          have HF : Hid (fnd l (ii + 1) UP = (fnd l ii UP || (decide (y.path = UP) && decide (y.kind = 2)))) := hstep
          obtain ⟨m0, m1, m2, m3, m4, mlt⟩ := five_at hMy
          obtain ⟨QB, hQB⟩ : ∃ QB, QB = wr.heap.size := ⟨_, rfl⟩
          rw [← hQB] at m0 m1 m2 m3 m4 mlt
          clear hstep hX2 hy hil hMy
          generalize hfb : fnd l ii UP = fb at *
          clear hfb
          go_upto_region 19 with fail
          rw [← hWY, ← hQB]
          clear hWY hQB u0' u1' u2' u3' u4' hkb'
          cases fb with
          | true =>
            have HF2 : Hid (fnd l (ii + 1) UP = true) := by show _ = _; rw [HF.out]; rfl
            clear HF
            go_wp2_with fail
            go_roundw
            case measure => simp only [intOf]; omega
            case rel => exact ⟨ii + 1, by omega, by go_num, by have e := HF2.out; first | (rw [e]; done) | (rw [e]; rfl) | (rw [e]; simp), HBy⟩
          | false =>
            have HF2 : Hid (fnd l (ii + 1) UP = (decide (y.path = UP) && decide (y.kind = 2))) := by show _ = _; rw [HF.out]; rfl
            clear HF
            obtain ⟨yp, yk, ym, yt, yb⟩ := y
            dsimp only at *
            by_cases he : yp = UP
            · by_cases hk : yk = 2
              · have HF3 : Hid (fnd l (ii + 1) UP = true) := by show _ = _; rw [HF2.out, decide_eq_true he, decide_eq_true hk]; rfl
                subst he hk
                clear HF2
                go_wp2_with fail
                go_roundw
                case measure => simp only [intOf]; omega
                case rel => exact ⟨ii + 1, by omega, by go_num, by have e := HF3.out; first | (rw [e]; done) | (rw [e]; rfl) | (rw [e]; simp), HBy⟩
              · have HF3 : Hid (fnd l (ii + 1) UP = false) := by show _ = _; rw [HF2.out, decide_eq_true he, decide_eq_false hk]; rfl
                have hkf : (yk == 2) = false := by rw [beq_eq_false_iff_ne]; exact hk
                subst he
                clear HF2 hk
                go_wp2_with fail
                go_roundw
                case measure => simp only [intOf]; omega
                case rel => exact ⟨ii + 1, by omega, by go_num, by have e := HF3.out; first | (rw [e]; done) | (rw [e]; rfl) | (rw [e]; simp), HBy⟩
            · have HF3 : Hid (fnd l (ii + 1) UP = false) := by show _ = _; rw [HF2.out, decide_eq_false he]; rfl
              have hpf : (yp.toList == UP.toList) = false := by
                rw [beq_eq_false_iff_ne, Lib.toList_data, Lib.toList_data]
                exact fun e => he (ByteArray.ext (by simpa using congrArg List.toArray e))
              clear HF2 he
              go_wp2_with fail
              go_roundw
              case measure => simp only [intOf]; omega
              case rel => exact ⟨ii + 1, by omega, by go_num, by have e := HF3.out; first | (rw [e]; done) | (rw [e]; rfl) | (rw [e]; simp), HBy⟩
        · obtain rfl : ii = j := by omega
          have HLs : Hid (fnd l ii UP = Wk.lies (its (l.take ii)) x.it) := fnd_lies l ii x UP HUP.out
          have HSt4 : Hid (R = if fnd l ii UP = false then 9 else Wk.wErrF (its (l.take (ii + 1))) (its (l.drop (ii + 1)))) := by
            show _ = _
            rw [HSt3.out, HLs.out]
          clear HSt3 HLs
          generalize hfb : fnd l ii UP = fb at *
          clear hfb
          cases fb with
          | true =>
            have HEn : Hid (R = Wk.wErrF (its (l.take (ii + 1))) (its (l.drop (ii + 1)))) := by show _ = _; rw [HSt4.out, if_neg (by decide)]
            clear HSt4
            go_wp2_with fail
            go_roundw
            case measure => simp only [intOf]; omega
            case rel => exact ⟨ii + 1, by omega, by go_num, HEn, HBx⟩
          | false =>
            have HRe : Hid (R = 9) := by show _ = _; rw [HSt4.out, if_pos rfl]
            clear HSt4
            go_wp2_with fail
            go_ret
            exact ⟨by rw [HRe.out]; rfl, HBx.out⟩
    · obtain rfl : j = N := by omega
      have HRe : Hid (R = 0) := by
        have e : l.drop j = [] := by rw [HN.out]; exact List.drop_of_length_le (Nat.le_refl _)
        show _ = _
        rw [HE.out, e]; rfl
      go_wp2_with fail
      go_ret
      exact ⟨by rw [HRe.out]; rfl, HB.out⟩
end Go.Proofs.YthpcbbkpjggjbaaDoor

namespace Go.Proofs.YthpcbbkpjggjbaaDoor
open Go.RowKit
set_option maxRecDepth 4000

set_option maxHeartbeats 16000000 in
theorem rapply_any (va vb : Value) (a : List Im) (b : List Em) (w : World) (ha : Ims w va a) (hb : Eds w vb b) (_la : a.length ≤ 140737488351232) (lb : b.length ≤ 140737488351232) (oa : ∀ x ∈ a, x.path.size ≤ 1048576 ∧ x.bytes.size ≤ 1048576) (ob : ∀ x ∈ b, x.path.size ≤ 1048576 ∧ x.item.path.size ≤ 1048576 ∧ x.item.bytes.size ≤ 1048576) :
    Calls Tryd.prog 12 #[va, vb] w fun e w' => ∃ v l, e = .returned (.tuple #[v, .int .i64 (Dl.apply (its a) (edl b)).2]) ∧ w'.ownsRow w.heap.size 29 5 v l.length (rowR imC l) ∧ its l = (Dl.apply (its a) (edl b)).1 ∧ Below w.heap.size w w' := by
  have hca := rworld_any va a w ha oa
  have HCb : Hid (∀ W, Below w.heap.size w W → Calls Tryd.prog 16 #[vb] W fun e w' => e = .returned (.int .i64 (Dl.check (edl b))) ∧ Below W.heap.size W w') := fun W hW => redits_any vb b W (hb.below hW) lb (fun x hx => (ob x hx).1)
  have HP : Hid (Dl.apply (its a) (edl b) = if Wk.world (its a) ≠ 0 then ([], Wk.world (its a)) else if Dl.check (edl b) ≠ 0 then ([], Dl.check (edl b)) else if Wk.world (Dl.appL (its a) (edl b)) ≠ 0 then ([], Wk.world (Dl.appL (its a) (edl b))) else (Dl.appL (its a) (edl b), 0)) := rfl
  have HXa : Hid (Ims w va a) := ha
  have HXb : Hid (Eds w vb b) := hb
  have HOa : Hid (∀ x ∈ a, x.path.size ≤ 4194304) := fun x hx => by have := (oa x hx).1; omega
  have HOb : Hid (∀ x ∈ b, x.path.size ≤ 4194304) := fun x hx => by have := (ob x hx).1; omega
  have HSa : Hid (∀ x ∈ a, x.path.size ≤ 1048576 ∧ x.bytes.size ≤ 1048576) := oa
  have HSb : Hid (∀ x ∈ b, x.path.size ≤ 1048576 ∧ x.item.path.size ≤ 1048576 ∧ x.item.bytes.size ≤ 1048576) := ob
  obtain ⟨RP, hRP⟩ : ∃ RP, RP = Dl.apply (its a) (edl b) := ⟨_, rfl⟩
  rw [← hRP] at HP ⊢
  obtain ⟨EA, hEA⟩ : ∃ EA, EA = Wk.world (its a) := ⟨_, rfl⟩
  obtain ⟨EB, hEB⟩ : ∃ EB, EB = Dl.check (edl b) := ⟨_, rfl⟩
  rw [← hEA] at hca
  rw [← hEB] at HCb
  have HEA : Hid (EA = Wk.world (its a)) := hEA
  have HEB : Hid (EB = Dl.check (edl b)) := hEB
  clear ha hb _la lb oa ob hRP hEA hEB
  go_enter Tryd.func12, Tryd.ntmps12
  go_wp2_with fail
  refine hca.mono ?_
  rintro e w1 ⟨rfl, b1⟩
  have HB1 : Hid (Below w.heap.size w w1) := b1
  clear hca b1
  by_cases c1 : EA = 0
  case neg =>
    have hne : (EA != 0) = true := by rw [bne_iff_ne]; exact c1
    have HRe : Hid (RP = ([], EA)) := by show _ = _; rw [HP.out, ← HEA.out, if_pos c1]
    clear HP HCb
    go_wp2_with fail
    go_ret2
    exact ⟨_, [], by rw [HRe.out]; rfl, World.ownsRow_nil _ _ _ _, by rw [HRe.out]; rfl, HB1.out⟩
  have hne : (EA != 0) = false := by rw [c1]; rfl
  have HEA0 : Hid (Wk.world (its a) = 0) := by show _ = _; rw [← HEA.out]; exact c1
  go_wp2_with fail
  refine (HCb.out _ HB1.out).mono ?_
  rintro e w2 ⟨rfl, b2⟩
  have HB2 : Hid (Below w.heap.size w w2) := HB1.out.trans (b2.mono HB1.out.size)
  clear HCb b2 hne c1
  by_cases c2 : EB = 0
  case neg =>
    have hne : (EB != 0) = true := by rw [bne_iff_ne]; exact c2
    have HRe : Hid (RP = ([], EB)) := by show _ = _; rw [HP.out, if_neg (fun q => q HEA0.out), ← HEB.out, if_pos c2]
    clear HP
    go_wp2_with fail
    go_ret2
    exact ⟨_, [], by rw [HRe.out]; rfl, World.ownsRow_nil _ _ _ _, by rw [HRe.out]; rfl, HB2.out⟩
  have hne : (EB != 0) = false := by rw [c2]; rfl
  have HEB0 : Hid (Dl.check (edl b) = 0) := by show _ = _; rw [← HEB.out]; exact c2
  have hlen : a.length + b.length ≤ 1000 := by
    have h1 := (Dl.wld HEA0.out).1; have h2 := (Dl.check_ok.1 HEB0.out).1; rw [its_length] at h1; rw [edl_length] at h2; omega
  have HLa : Hid (a.length + b.length ≤ 1000) := hlen
  have HLn : Hid (a.length + b.length ≤ 1000) := hlen
  obtain ⟨aa, ac, rfl, _, _⟩ := HXa.out.slice
  obtain ⟨ba, bc, rfl, _, _⟩ := HXb.out.slice
  obtain ⟨N1, hN1⟩ : ∃ N, N = a.length := ⟨_, rfl⟩
  obtain ⟨N2, hN2⟩ : ∃ N, N = b.length := ⟨_, rfl⟩
  have HN1 : Hid (N1 = a.length) := hN1
  have HN2 : Hid (N2 = b.length) := hN2
  have HN : Hid (N1 = a.length) := hN1
  rw [← hN1] at HXa ⊢
  rw [← hN2] at HXb ⊢
  have HXa2 : Hid (Ims w2 (.slice aa N1 ac) a) := HXa.out.below HB2.out
  have HXb2 : Hid (Eds w2 (.slice ba N2 bc) b) := HXb.out.below HB2.out
  have hq1 : N1 ≤ 1000 := by omega
  have hq2 : N2 ≤ 1000 := by omega
  clear hlen hN1 hN2
  go_wp2_with fail
  clear c2 hne
  go_loopw [8, 33] (fun s i wr => ∃ k : Nat, k ≤ N1 ∧ i = .int .i64 k ∧ Hid (wr.ownsRow w2.heap.size 9 1 s (([] : List ByteArray) ++ (a.take k).map Im.path).length ((([] : List ByteArray) ++ (a.take k).map Im.path).map Tv)) ∧ Hid (Below w2.heap.size w2 wr)) (fun _ i _ => N1 - (intOf i).toNat)
  case atStart => exact ⟨0, by omega, rfl, by show World.ownsRow _ _ _ _ _ _ _; simpa using World.ownsRow_nil w2 w2.heap.size 9 1, Below.refl _ _⟩
  case round =>
    obtain ⟨k, hk, rfl, HO, HB⟩ := hrel
    by_cases hlt : k < N1
    · obtain ⟨x, hx⟩ : ∃ x, a[k]? = some x := ⟨_, List.getElem?_eq_getElem (by have := HN1.out; omega)⟩
      obtain ⟨bk, o, rfl, hbk, c0, c1, c2, c3, c4⟩ := (HXa2.out.below HB.out).item k x hx
      have HDn : Hid ((([] : List ByteArray) ++ (a.take (k + 1)).map Im.path) = (([] : List ByteArray) ++ (a.take k).map Im.path) ++ [x.path]) := by show _ = _; rw [List.take_add_one, hx]; simp
      obtain ⟨xp, xk, xm, xt, xb⟩ := x
      dsimp only at c0 c1 c2 c3 c4 HDn
      obtain ⟨s2, W6, hr6, ho6, hg6⟩ := more_tx w2.heap.size u8 (([] : List ByteArray) ++ (a.take k).map Im.path) xp ((wr.alloc (.cells #[.string xp, .int .i64 xk, .int .i64 xm, .int .i64 xt, .string xb] 29)).alloc (.cells #[.string xp] 9)) ((HO.out.alloc _).alloc _) (wr.heap.size + 1) (by rw [show wr.heap.size + 1 = (wr.alloc (.cells #[.string xp, .int .i64 xk, .int .i64 xm, .int .i64 xt, .string xb] 29)).heap.size from by simp]; exact heap_alloc_new _ _) (by have := HLn.out; have := HN1.out; have : ([] : List ByteArray).length = 0 := rfl; simp only [List.length_append, List.length_map, List.length_take]; omega) (by have := HB.out.size; simp; omega)
      have HO6 : Hid (W6.ownsRow w2.heap.size 9 1 s2 (([] : List ByteArray) ++ (a.take (k + 1)).map Im.path).length ((([] : List ByteArray) ++ (a.take (k + 1)).map Im.path).map Tv)) := by
        rw [HDn.out]; exact ho6
      have HB6 : Hid (Below w2.heap.size w2 W6) := (((HB.out.alloc HB.out.size _).alloc (by have := HB.out.size; simp; omega) _)).grown hg6 (by have := HB.out.size; simp; omega) fun g hg => (HO.out.lt g hg).1
      clear ho6 hg6 hx HDn
      go_wp2_with (at_builtin; refine wpL_append_run rfl (.tmp 37) (.tmp 40) 50 50 rfl rfl _ _ s2 W6 rfl rfl hr6 ?_)
      clear hr6 c0 c1 c2 c3 c4
      go_roundw
      case measure => simp only [intOf]; omega
      case rel => exact ⟨k + 1, by omega, by go_num, HO6, HB6⟩
    · obtain rfl : N1 = k := by omega
      have HO1 : Hid (wr.ownsRow w2.heap.size 9 1 u8 (a.map Im.path).length ((a.map Im.path).map Tv)) := by
        have h := HO.out
        rw [List.take_of_length_le (by have := HN1.out; omega), List.nil_append] at h
        exact h
      clear HO
      go_wp2_with fail
      go_loopw [8, 45] (fun s i wr => ∃ k : Nat, k ≤ N2 ∧ i = .int .i64 k ∧ Hid (wr.ownsRow w2.heap.size 9 1 s ((a.map Im.path) ++ (b.take k).map Em.path).length (((a.map Im.path) ++ (b.take k).map Em.path).map Tv)) ∧ Hid (Below w2.heap.size w2 wr)) (fun _ i _ => N2 - (intOf i).toNat)
      case atStart => exact ⟨0, by omega, rfl, by show World.ownsRow _ _ _ _ _ _ _; simpa using HO1.out, HB.out⟩
      case round =>
        obtain ⟨k, hk, rfl, HO, HB⟩ := hrel
        by_cases hlt : k < N2
        · obtain ⟨x, hx⟩ : ∃ x, b[k]? = some x := ⟨_, List.getElem?_eq_getElem (by have := HN2.out; omega)⟩
          obtain ⟨bk, o, rfl, hbk, c0, c1, c2, c3, c4, c5, c6⟩ := (HXb2.out.below HB.out).edit k x hx
          have HDn : Hid (((a.map Im.path) ++ (b.take (k + 1)).map Em.path) = ((a.map Im.path) ++ (b.take k).map Em.path) ++ [x.path]) := by show _ = _; rw [List.take_add_one, hx]; simp
          obtain ⟨xp, xg, ⟨xi, xk, xm, xt, xb⟩⟩ := x
          dsimp only at c0 c1 c2 c3 c4 c5 c6 HDn
          obtain ⟨s2, W6, hr6, ho6, hg6⟩ := more_tx w2.heap.size u8 ((a.map Im.path) ++ (b.take k).map Em.path) xp ((wr.alloc (.cells #[.string xp, .bool xg, .string xi, .int .i64 xk, .int .i64 xm, .int .i64 xt, .string xb] 31)).alloc (.cells #[.string xp] 9)) ((HO.out.alloc _).alloc _) (wr.heap.size + 1) (by rw [show wr.heap.size + 1 = (wr.alloc (.cells #[.string xp, .bool xg, .string xi, .int .i64 xk, .int .i64 xm, .int .i64 xt, .string xb] 31)).heap.size from by simp]; exact heap_alloc_new _ _) (by have := HLn.out; have := HN2.out; have : ([] : List ByteArray).length = 0 := rfl; simp only [List.length_append, List.length_map, List.length_take]; omega) (by have := HB.out.size; simp; omega)
          have HO6 : Hid (W6.ownsRow w2.heap.size 9 1 s2 ((a.map Im.path) ++ (b.take (k + 1)).map Em.path).length (((a.map Im.path) ++ (b.take (k + 1)).map Em.path).map Tv)) := by
            rw [HDn.out]; exact ho6
          have HB6 : Hid (Below w2.heap.size w2 W6) := (((HB.out.alloc HB.out.size _).alloc (by have := HB.out.size; simp; omega) _)).grown hg6 (by have := HB.out.size; simp; omega) fun g hg => (HO.out.lt g hg).1
          clear ho6 hg6 hx HDn
          go_wp2_with (at_builtin; refine wpL_append_run rfl (.tmp 49) (.tmp 52) 50 50 rfl rfl _ _ s2 W6 rfl rfl hr6 ?_)
          clear hr6 c0 c1 c2 c3 c4 c5 c6
          go_roundw
          case measure => simp only [intOf]; omega
          case rel => exact ⟨k + 1, by omega, by go_num, HO6, HB6⟩
        · obtain rfl : N2 = k := by omega
          have HO1 : Hid (wr.ownsRow w2.heap.size 9 1 u8 (a.map Im.path ++ b.map Em.path).length ((a.map Im.path ++ b.map Em.path).map Tv)) := by
            have h := HO.out
            rw [List.take_of_length_le (by have := HN2.out; omega)] at h
            exact h
          have hps : ∀ s ∈ (a.map Im.path ++ b.map Em.path), s.size ≤ 4194304 := by
            intro s hs
            rcases List.mem_append.1 hs with q | q
            · obtain ⟨x, hx, rfl⟩ := List.mem_map.1 q
              exact HOa.out x hx
            · obtain ⟨x, hx, rfl⟩ := List.mem_map.1 q
              exact HOb.out x hx
          have hap := rpaths_any u8 (a.map Im.path ++ b.map Em.path) wr (Tx.of_own HO1.out) (by have := HLn.out; have := HN.out; rw [List.length_append, List.length_map, List.length_map]; omega) hps
          have HBw6 : Hid (Below w.heap.size w wr) := HB2.out.trans (HB.out.mono HB2.out.size)
          have HBx6 := HB
          clear HO HB hps
          go_wp2_with fail
          refine hap.mono ?_
          rintro e w7 ⟨v7, m, rfl, h7, hm, hmi, b7⟩
          have HB7 : Hid (Below w.heap.size w w7) := HBw6.out.trans (b7.mono HBw6.out.size)
          have HMi : Hid (∀ q ∈ m, q ∈ (a.map Im.path ++ b.map Em.path)) := hmi
          have HDm : Hid (dl m = Dl.paths ((its a).map Wk.It.path ++ (edl b).map Dl.Ed.path)) := by
            show _ = _
            rw [hm]
            congr 1
            unfold dl its edl; simp [Im.it, Em.ed, Function.comp_def]
          have HMl : Hid (m.length ≤ 1000) := by
            have h1 := congrArg List.length hm
            have h2 := Dl.paths_len (dl (a.map Im.path ++ b.map Em.path))
            rw [dl_length] at h1 h2
            have := HLn.out
            have := HN.out
            show _ ≤ _
            rw [List.length_append, List.length_map, List.length_map] at h2; omega
          have hTm := Tx.of_own h7
          obtain ⟨ma, mc, rfl⟩ := own_form h7
          obtain ⟨M, hM⟩ : ∃ M, M = m.length := ⟨_, rfl⟩
          have HM : Hid (M = m.length) := hM
          rw [← hM] at hTm ⊢
          have HTm : Hid (Tx w7 (.slice ma M mc) m) := hTm
          have hM3 : M ≤ 1000 := by have := HMl.out; omega
          clear hap b7 hm hmi hM hTm h7 HBw6 HBx6 HO1
          go_wp2_with fail
          go_loopw [13, 58] (fun s i wr => ∃ k : Nat, k ≤ M ∧ i = .int .i64 k ∧ Hid (wr.ownsRow w7.heap.size 29 5 s ((m.take k).filterMap (tAR a b)).length (rowR imC ((m.take k).filterMap (tAR a b)))) ∧ Hid (Below w7.heap.size w7 wr)) (fun _ i _ => M - (intOf i).toNat)
          case atStart => exact ⟨0, by omega, rfl, World.ownsRow_nil _ _ _ _, Below.refl _ _⟩
          case round =>
            obtain ⟨k, hk, rfl, HO, HB⟩ := hrel
            by_cases hlt : k < M
            · have hkm : k < m.length := by have := HM.out; omega
              obtain ⟨bk, o, rfl, hbk, x0⟩ := (HTm.out.below HB.out).get k hkm
              obtain ⟨p, hp⟩ : ∃ p, m[k]? = some p := ⟨_, List.getElem?_eq_getElem hkm⟩
              rw [List.getD_eq_getElem?_getD, hp, Option.getD_some] at x0
              have HPk : Hid (m[k]? = some p) := hp
              have HBr : Hid (Below w.heap.size w wr) := HB7.out.trans (HB.out.mono HB7.out.size)
              have hA := fun (W : World) (hW : Below w.heap.size w W) => atI_any (.slice aa N1 ac) a p W (HXa.out.below hW) (by have := HLa.out; omega)
              have hB := fun (W : World) (hW : Below w.heap.size w W) => atE_any (.slice ba N2 bc) b p W (HXb.out.below hW) (by have := HLa.out; omega)
              obtain ⟨A, hAe⟩ : ∃ A, A = atI a p := ⟨_, rfl⟩
              obtain ⟨B, hBe⟩ : ∃ B, B = atE b p := ⟨_, rfl⟩
              rw [← hAe] at hA
              rw [← hBe] at hB
              have HAe : Hid (A = atI a p) := hAe
              have HBe : Hid (B = atE b p) := hBe
              clear hAe hBe hp hkm
              cases B with
              | none =>
                cases A with
                | none =>
                  have hAx : ∀ W, Below w.heap.size w W → Calls Tryd.prog 27 #[.slice aa N1 ac, .string p] W fun e w' => e = .returned (.tuple #[.agg #[.string ⟨#[]⟩, .int .i64 0, .int .i64 0, .int .i64 0, .string ⟨#[]⟩], .bool false]) ∧ Below W.heap.size W w' := hA
                  have hBx : ∀ W, Below w.heap.size w W → Calls Tryd.prog 31 #[.slice ba N2 bc, .string p] W fun e w' => e = .returned (.tuple #[.agg #[.string ⟨#[]⟩, .bool false, .string ⟨#[]⟩, .int .i64 0, .int .i64 0, .int .i64 0, .string ⟨#[]⟩], .bool false]) ∧ Below W.heap.size W w' := hB
                  clear hA hB
                  go_wp2_with fail
                  refine (hAx _ HBr.out).mono ?_
                  rintro e w8 ⟨rfl, b8⟩
                  obtain ⟨W1, hW1⟩ : ∃ W1, W1 = w8.alloc (.cells #[.string ⟨#[]⟩, .int .i64 0, .int .i64 0, .int .i64 0, .string ⟨#[]⟩] 29) := ⟨_, rfl⟩
                  obtain ⟨XA, hXA⟩ : ∃ XA, XA = w8.heap.size := ⟨_, rfl⟩
                  have hBa : Below wr.heap.size wr W1 := by rw [hW1]; exact b8.alloc b8.size _
                  have HXl : Hid (wr.heap.size ≤ XA) := by show _ ≤ _; rw [hXA]; exact b8.size
                  have HBa : Hid (Below wr.heap.size wr W1) := hBa
                  have HMa : Hid (W1.heap[XA]? = some (.cells #[.string ⟨#[]⟩, .int .i64 0, .int .i64 0, .int .i64 0, .string ⟨#[]⟩] 29 (0, 0))) := by rw [hW1, hXA]; exact heap_alloc_new w8 _
                  clear b8 hBa hAx
                  go_wp2_with fail
                  rw [← hW1, ← hXA]
                  clear hW1 hXA
                  refine (hBx _ (HBr.out.trans (HBa.out.mono HBr.out.size))).mono ?_
                  rintro e w9 ⟨rfl, b9⟩
                  obtain ⟨W2, hW2⟩ : ∃ W2, W2 = w9.alloc (.cells #[.string ⟨#[]⟩, .bool false, .string ⟨#[]⟩, .int .i64 0, .int .i64 0, .int .i64 0, .string ⟨#[]⟩] 31) := ⟨_, rfl⟩
                  obtain ⟨XB, hXB⟩ : ∃ XB, XB = w9.heap.size := ⟨_, rfl⟩
                  have hBb : Below W1.heap.size W1 W2 := by rw [hW2]; exact b9.alloc b9.size _
                  have HBb : Hid (Below wr.heap.size wr W2) := HBa.out.trans (hBb.mono HBa.out.size)
                  have HMa2 : Hid (W2.heap[XA]? = some (.cells #[.string ⟨#[]⟩, .int .i64 0, .int .i64 0, .int .i64 0, .string ⟨#[]⟩] 29 (0, 0))) := (hBb.block _ (Array.getElem?_eq_some_iff.1 HMa.out).1).trans HMa.out
                  have HMb : Hid (W2.heap[XB]? = some (.cells #[.string ⟨#[]⟩, .bool false, .string ⟨#[]⟩, .int .i64 0, .int .i64 0, .int .i64 0, .string ⟨#[]⟩] 31 (0, 0))) := by rw [hW2, hXB]; exact heap_alloc_new w9 _
                  have HXX : Hid (XA ≠ XB) := by
                    have h1 := (Array.getElem?_eq_some_iff.1 HMa.out).1
                    have h2 := b9.size
                    show _ ≠ _
                    omega
                  clear b9 hBb hBx HMa HBa
                  go_upto_region 24 with fail
                  rw [← hW2, ← hXB]
                  clear hW2 hXB
                  have keyA := fun j => cell_of_row W2 XA j _ _ _ HMa2.out
                  have keyB := fun j => cell_of_row W2 XB j _ _ _ HMb.out
                  have ca0 : W2.cell? ⟨XA, 0, none⟩ = some (.string ⟨#[]⟩) := keyA 0
                  have ca1 : W2.cell? ⟨XA, 1, none⟩ = some (.int .i64 0) := keyA 1
                  have ca2 : W2.cell? ⟨XA, 2, none⟩ = some (.int .i64 0) := keyA 2
                  have ca3 : W2.cell? ⟨XA, 3, none⟩ = some (.int .i64 0) := keyA 3
                  have ca4 : W2.cell? ⟨XA, 4, none⟩ = some (.string ⟨#[]⟩) := keyA 4
                  have cb0 : W2.cell? ⟨XB, 0, none⟩ = some (.string ⟨#[]⟩) := keyB 0
                  have cb1 : W2.cell? ⟨XB, 1, none⟩ = some (.bool false) := keyB 1
                  have cb2 : W2.cell? ⟨XB, 2, none⟩ = some (.string ⟨#[]⟩) := keyB 2
                  have cb3 : W2.cell? ⟨XB, 3, none⟩ = some (.int .i64 0) := keyB 3
                  have cb4 : W2.cell? ⟨XB, 4, none⟩ = some (.int .i64 0) := keyB 4
                  have cb5 : W2.cell? ⟨XB, 5, none⟩ = some (.int .i64 0) := keyB 5
                  have cb6 : W2.cell? ⟨XB, 6, none⟩ = some (.string ⟨#[]⟩) := keyB 6
                  clear keyA keyB
                  have HO6 : Hid (W2.ownsRow w7.heap.size 29 5 u13 ((m.take (k + 1)).filterMap (tAR a b)).length (rowR imC ((m.take (k + 1)).filterMap (tAR a b)))) := by
                    rw [told_step HPk.out, show tAR a b p = none from tAR_none HBe.out HAe.out, Option.toList_none, List.append_nil]; exact own_below HO.out HBb.out
                  have HB6 : Hid (Below w7.heap.size w7 W2) := HB.out.trans ((HBb.out).mono HB.out.size)
                  go_wp2_with fail
                  clear ca0 ca1 ca2 ca3 ca4 cb0 cb1 cb2 cb3 cb4 cb5 cb6
                  go_roundw
                  case measure => simp only [intOf]; omega
                  case rel => exact ⟨k + 1, by omega, by go_num, HO6, HB6⟩
                | some x =>
                  obtain ⟨xp, xk, xm, xt, xb⟩ := x
                  have hAx : ∀ W, Below w.heap.size w W → Calls Tryd.prog 27 #[.slice aa N1 ac, .string p] W fun e w' => e = .returned (.tuple #[.agg #[.string xp, .int .i64 xk, .int .i64 xm, .int .i64 xt, .string xb], .bool true]) ∧ Below W.heap.size W w' := hA
                  have hBx : ∀ W, Below w.heap.size w W → Calls Tryd.prog 31 #[.slice ba N2 bc, .string p] W fun e w' => e = .returned (.tuple #[.agg #[.string ⟨#[]⟩, .bool false, .string ⟨#[]⟩, .int .i64 0, .int .i64 0, .int .i64 0, .string ⟨#[]⟩], .bool false]) ∧ Below W.heap.size W w' := hB
                  clear hA hB
                  go_wp2_with fail
                  refine (hAx _ HBr.out).mono ?_
                  rintro e w8 ⟨rfl, b8⟩
                  obtain ⟨W1, hW1⟩ : ∃ W1, W1 = w8.alloc (.cells #[.string xp, .int .i64 xk, .int .i64 xm, .int .i64 xt, .string xb] 29) := ⟨_, rfl⟩
                  obtain ⟨XA, hXA⟩ : ∃ XA, XA = w8.heap.size := ⟨_, rfl⟩
                  have hBa : Below wr.heap.size wr W1 := by rw [hW1]; exact b8.alloc b8.size _
                  have HXl : Hid (wr.heap.size ≤ XA) := by show _ ≤ _; rw [hXA]; exact b8.size
                  have HBa : Hid (Below wr.heap.size wr W1) := hBa
                  have HMa : Hid (W1.heap[XA]? = some (.cells #[.string xp, .int .i64 xk, .int .i64 xm, .int .i64 xt, .string xb] 29 (0, 0))) := by rw [hW1, hXA]; exact heap_alloc_new w8 _
                  clear b8 hBa hAx
                  go_wp2_with fail
                  rw [← hW1, ← hXA]
                  clear hW1 hXA
                  refine (hBx _ (HBr.out.trans (HBa.out.mono HBr.out.size))).mono ?_
                  rintro e w9 ⟨rfl, b9⟩
                  obtain ⟨W2, hW2⟩ : ∃ W2, W2 = w9.alloc (.cells #[.string ⟨#[]⟩, .bool false, .string ⟨#[]⟩, .int .i64 0, .int .i64 0, .int .i64 0, .string ⟨#[]⟩] 31) := ⟨_, rfl⟩
                  obtain ⟨XB, hXB⟩ : ∃ XB, XB = w9.heap.size := ⟨_, rfl⟩
                  have hBb : Below W1.heap.size W1 W2 := by rw [hW2]; exact b9.alloc b9.size _
                  have HBb : Hid (Below wr.heap.size wr W2) := HBa.out.trans (hBb.mono HBa.out.size)
                  have HMa2 : Hid (W2.heap[XA]? = some (.cells #[.string xp, .int .i64 xk, .int .i64 xm, .int .i64 xt, .string xb] 29 (0, 0))) := (hBb.block _ (Array.getElem?_eq_some_iff.1 HMa.out).1).trans HMa.out
                  have HMb : Hid (W2.heap[XB]? = some (.cells #[.string ⟨#[]⟩, .bool false, .string ⟨#[]⟩, .int .i64 0, .int .i64 0, .int .i64 0, .string ⟨#[]⟩] 31 (0, 0))) := by rw [hW2, hXB]; exact heap_alloc_new w9 _
                  have HXX : Hid (XA ≠ XB) := by
                    have h1 := (Array.getElem?_eq_some_iff.1 HMa.out).1
                    have h2 := b9.size
                    show _ ≠ _
                    omega
                  clear b9 hBb hBx HMa HBa
                  go_upto_region 24 with fail
                  rw [← hW2, ← hXB]
                  clear hW2 hXB
                  have keyA := fun j => cell_of_row W2 XA j _ _ _ HMa2.out
                  have keyB := fun j => cell_of_row W2 XB j _ _ _ HMb.out
                  have ca0 : W2.cell? ⟨XA, 0, none⟩ = some (.string xp) := keyA 0
                  have ca1 : W2.cell? ⟨XA, 1, none⟩ = some (.int .i64 xk) := keyA 1
                  have ca2 : W2.cell? ⟨XA, 2, none⟩ = some (.int .i64 xm) := keyA 2
                  have ca3 : W2.cell? ⟨XA, 3, none⟩ = some (.int .i64 xt) := keyA 3
                  have ca4 : W2.cell? ⟨XA, 4, none⟩ = some (.string xb) := keyA 4
                  have cb0 : W2.cell? ⟨XB, 0, none⟩ = some (.string ⟨#[]⟩) := keyB 0
                  have cb1 : W2.cell? ⟨XB, 1, none⟩ = some (.bool false) := keyB 1
                  have cb2 : W2.cell? ⟨XB, 2, none⟩ = some (.string ⟨#[]⟩) := keyB 2
                  have cb3 : W2.cell? ⟨XB, 3, none⟩ = some (.int .i64 0) := keyB 3
                  have cb4 : W2.cell? ⟨XB, 4, none⟩ = some (.int .i64 0) := keyB 4
                  have cb5 : W2.cell? ⟨XB, 5, none⟩ = some (.int .i64 0) := keyB 5
                  have cb6 : W2.cell? ⟨XB, 6, none⟩ = some (.string ⟨#[]⟩) := keyB 6
                  clear keyA keyB
                  obtain ⟨s2, W6, hr6, ho6, hg6⟩ := more_ai w7.heap.size u13 ((m.take k).filterMap (tAR a b)) (⟨xp, xk, xm, xt, xb⟩ : Im) (W2.alloc (.cells #[.string xp, .int .i64 xk, .int .i64 xm, .int .i64 xt, .string xb] 29)) ((own_below HO.out HBb.out).alloc _) W2.heap.size (heap_alloc_new W2 _) (by have h1 := List.length_filterMap_le (tAR a b) (m.take k); rw [List.length_take] at h1; have := HMl.out; omega) (by have h1 := HB.out.size; have h2 := (HBb.out).size; simp; omega)
                  have HO6 : Hid (W6.ownsRow w7.heap.size 29 5 s2 ((m.take (k + 1)).filterMap (tAR a b)).length (rowR imC ((m.take (k + 1)).filterMap (tAR a b)))) := by
                    rw [told_step HPk.out, show tAR a b p = some (⟨xp, xk, xm, xt, xb⟩ : Im) from tAR_none HBe.out HAe.out, Option.toList_some]; exact ho6
                  have HB6 : Hid (Below w7.heap.size w7 W6) := ((HB.out.trans ((HBb.out).mono HB.out.size)).alloc (Nat.le_trans HB.out.size (HBb.out).size) _).grown hg6 (by have h1 := HB.out.size; have h2 := (HBb.out).size; simp; omega) fun g hg => (HO.out.lt g hg).1
                  clear ho6 hg6
                  go_wp2_with (at_builtin; refine wpL_append_run rfl (.tmp 81) (.tmp 83) 22 22 rfl rfl _ _ s2 W6 rfl rfl hr6 ?_)
                  clear hr6 ca0 ca1 ca2 ca3 ca4 cb0 cb1 cb2 cb3 cb4 cb5 cb6
                  go_roundw
                  case measure => simp only [intOf]; omega
                  case rel => exact ⟨k + 1, by omega, by go_num, HO6, HB6⟩
              | some y =>
                obtain ⟨yp, yg, ⟨yi, yk, ym, yt, yb⟩⟩ := y
                cases A with
                | none =>
                  cases yg with
                  | true =>
                    have hAx : ∀ W, Below w.heap.size w W → Calls Tryd.prog 27 #[.slice aa N1 ac, .string p] W fun e w' => e = .returned (.tuple #[.agg #[.string ⟨#[]⟩, .int .i64 0, .int .i64 0, .int .i64 0, .string ⟨#[]⟩], .bool false]) ∧ Below W.heap.size W w' := hA
                    have hBx : ∀ W, Below w.heap.size w W → Calls Tryd.prog 31 #[.slice ba N2 bc, .string p] W fun e w' => e = .returned (.tuple #[.agg #[.string yp, .bool true, .string yi, .int .i64 yk, .int .i64 ym, .int .i64 yt, .string yb], .bool true]) ∧ Below W.heap.size W w' := hB
                    clear hA hB
                    go_wp2_with fail
                    refine (hAx _ HBr.out).mono ?_
                    rintro e w8 ⟨rfl, b8⟩
                    obtain ⟨W1, hW1⟩ : ∃ W1, W1 = w8.alloc (.cells #[.string ⟨#[]⟩, .int .i64 0, .int .i64 0, .int .i64 0, .string ⟨#[]⟩] 29) := ⟨_, rfl⟩
                    obtain ⟨XA, hXA⟩ : ∃ XA, XA = w8.heap.size := ⟨_, rfl⟩
                    have hBa : Below wr.heap.size wr W1 := by rw [hW1]; exact b8.alloc b8.size _
                    have HXl : Hid (wr.heap.size ≤ XA) := by show _ ≤ _; rw [hXA]; exact b8.size
                    have HBa : Hid (Below wr.heap.size wr W1) := hBa
                    have HMa : Hid (W1.heap[XA]? = some (.cells #[.string ⟨#[]⟩, .int .i64 0, .int .i64 0, .int .i64 0, .string ⟨#[]⟩] 29 (0, 0))) := by rw [hW1, hXA]; exact heap_alloc_new w8 _
                    clear b8 hBa hAx
                    go_wp2_with fail
                    rw [← hW1, ← hXA]
                    clear hW1 hXA
                    refine (hBx _ (HBr.out.trans (HBa.out.mono HBr.out.size))).mono ?_
                    rintro e w9 ⟨rfl, b9⟩
                    obtain ⟨W2, hW2⟩ : ∃ W2, W2 = w9.alloc (.cells #[.string yp, .bool true, .string yi, .int .i64 yk, .int .i64 ym, .int .i64 yt, .string yb] 31) := ⟨_, rfl⟩
                    obtain ⟨XB, hXB⟩ : ∃ XB, XB = w9.heap.size := ⟨_, rfl⟩
                    have hBb : Below W1.heap.size W1 W2 := by rw [hW2]; exact b9.alloc b9.size _
                    have HBb : Hid (Below wr.heap.size wr W2) := HBa.out.trans (hBb.mono HBa.out.size)
                    have HMa2 : Hid (W2.heap[XA]? = some (.cells #[.string ⟨#[]⟩, .int .i64 0, .int .i64 0, .int .i64 0, .string ⟨#[]⟩] 29 (0, 0))) := (hBb.block _ (Array.getElem?_eq_some_iff.1 HMa.out).1).trans HMa.out
                    have HMb : Hid (W2.heap[XB]? = some (.cells #[.string yp, .bool true, .string yi, .int .i64 yk, .int .i64 ym, .int .i64 yt, .string yb] 31 (0, 0))) := by rw [hW2, hXB]; exact heap_alloc_new w9 _
                    have HXX : Hid (XA ≠ XB) := by
                      have h1 := (Array.getElem?_eq_some_iff.1 HMa.out).1
                      have h2 := b9.size
                      show _ ≠ _
                      omega
                    clear b9 hBb hBx HMa HBa
                    go_upto_region 24 with fail
                    rw [← hW2, ← hXB]
                    clear hW2 hXB
                    have keyA := fun j => cell_of_row W2 XA j _ _ _ HMa2.out
                    have keyB := fun j => cell_of_row W2 XB j _ _ _ HMb.out
                    have ca0 : W2.cell? ⟨XA, 0, none⟩ = some (.string ⟨#[]⟩) := keyA 0
                    have ca1 : W2.cell? ⟨XA, 1, none⟩ = some (.int .i64 0) := keyA 1
                    have ca2 : W2.cell? ⟨XA, 2, none⟩ = some (.int .i64 0) := keyA 2
                    have ca3 : W2.cell? ⟨XA, 3, none⟩ = some (.int .i64 0) := keyA 3
                    have ca4 : W2.cell? ⟨XA, 4, none⟩ = some (.string ⟨#[]⟩) := keyA 4
                    have cb0 : W2.cell? ⟨XB, 0, none⟩ = some (.string yp) := keyB 0
                    have cb1 : W2.cell? ⟨XB, 1, none⟩ = some (.bool true) := keyB 1
                    have cb2 : W2.cell? ⟨XB, 2, none⟩ = some (.string yi) := keyB 2
                    have cb3 : W2.cell? ⟨XB, 3, none⟩ = some (.int .i64 yk) := keyB 3
                    have cb4 : W2.cell? ⟨XB, 4, none⟩ = some (.int .i64 ym) := keyB 4
                    have cb5 : W2.cell? ⟨XB, 5, none⟩ = some (.int .i64 yt) := keyB 5
                    have cb6 : W2.cell? ⟨XB, 6, none⟩ = some (.string yb) := keyB 6
                    clear keyA keyB
                    have hzf : ∀ j, W2.frozen? ⟨XA, j, none⟩ = false := fun j => frozen_of_row W2 _ j _ _ HMa2.out
                    have fz0 := hzf 0
                    have fz1 := hzf 1
                    have fz2 := hzf 2
                    have fz3 := hzf 3
                    have fz4 := hzf 4
                    obtain ⟨W3, hW3⟩ : ∃ W3, W3 = ((((((W2.setCell ⟨XA, 0, none⟩ (.string yi)).setCell ⟨XA, 1, none⟩ (.int .i64 yk)).setCell ⟨XA, 2, none⟩ (.int .i64 ym)).setCell ⟨XA, 3, none⟩ (.int .i64 yt)).setCell ⟨XA, 4, none⟩ (.string yb))).drew := ⟨_, rfl⟩
                    have HXw : Hid (wr.heap.size ≤ XA) := HXl
                    have HBc : Hid (Below wr.heap.size wr W3) := by rw [hW3]; exact ((((((HBb.out.setCell (p := ⟨XA, 0, none⟩) HXw.out _).setCell (p := ⟨XA, 1, none⟩) HXw.out _).setCell (p := ⟨XA, 2, none⟩) HXw.out _).setCell (p := ⟨XA, 3, none⟩) HXw.out _).setCell (p := ⟨XA, 4, none⟩) HXw.out _)).drew
                    have HMc : Hid (W3.heap[XA]? = some (.cells #[.string yi, .int .i64 yk, .int .i64 ym, .int .i64 yt, .string yb] 29 (0, 0))) := by
                      rw [hW3]
                      have h := sets_blk (post := []) (imC ⟨yi, yk, ym, yt, yb⟩) [] [.string ⟨#[]⟩, .int .i64 0, .int .i64 0, .int .i64 0, .string ⟨#[]⟩] W2 HMa2.out rfl
                      rw [List.append_nil] at h
                      exact h
                    have hXX1 : XA ≠ XB := HXX.out
                    have hXX2 : XB ≠ XA := fun e => HXX.out e.symm
                    clear hzf
                    go_upto_region 25 with fail
                    go_region
                    all_goals
                      rw [← hW3]
                      clear hW3 hXX1 hXX2 ca0 ca1 ca2 ca3 ca4 cb0 cb1 cb2 cb3 cb4 cb5 cb6 fz0 fz1 fz2 fz3 fz4
                      have HO6 : Hid (W3.ownsRow w7.heap.size 29 5 u13 ((m.take (k + 1)).filterMap (tAR a b)).length (rowR imC ((m.take (k + 1)).filterMap (tAR a b)))) := by
                        rw [told_step HPk.out, show tAR a b p = none from (tAR_some HBe.out).trans rfl, Option.toList_none, List.append_nil]; exact own_below HO.out HBc.out
                      have HB6 : Hid (Below w7.heap.size w7 W3) := HB.out.trans ((HBc.out).mono HB.out.size)
                      go_wp2_with fail
                      clear HMc
                      go_roundw
                      case measure => simp only [intOf]; omega
                      case rel => exact ⟨k + 1, by omega, by go_num, HO6, HB6⟩
                  | false =>
                    have hAx : ∀ W, Below w.heap.size w W → Calls Tryd.prog 27 #[.slice aa N1 ac, .string p] W fun e w' => e = .returned (.tuple #[.agg #[.string ⟨#[]⟩, .int .i64 0, .int .i64 0, .int .i64 0, .string ⟨#[]⟩], .bool false]) ∧ Below W.heap.size W w' := hA
                    have hBx : ∀ W, Below w.heap.size w W → Calls Tryd.prog 31 #[.slice ba N2 bc, .string p] W fun e w' => e = .returned (.tuple #[.agg #[.string yp, .bool false, .string yi, .int .i64 yk, .int .i64 ym, .int .i64 yt, .string yb], .bool true]) ∧ Below W.heap.size W w' := hB
                    clear hA hB
                    go_wp2_with fail
                    refine (hAx _ HBr.out).mono ?_
                    rintro e w8 ⟨rfl, b8⟩
                    obtain ⟨W1, hW1⟩ : ∃ W1, W1 = w8.alloc (.cells #[.string ⟨#[]⟩, .int .i64 0, .int .i64 0, .int .i64 0, .string ⟨#[]⟩] 29) := ⟨_, rfl⟩
                    obtain ⟨XA, hXA⟩ : ∃ XA, XA = w8.heap.size := ⟨_, rfl⟩
                    have hBa : Below wr.heap.size wr W1 := by rw [hW1]; exact b8.alloc b8.size _
                    have HXl : Hid (wr.heap.size ≤ XA) := by show _ ≤ _; rw [hXA]; exact b8.size
                    have HBa : Hid (Below wr.heap.size wr W1) := hBa
                    have HMa : Hid (W1.heap[XA]? = some (.cells #[.string ⟨#[]⟩, .int .i64 0, .int .i64 0, .int .i64 0, .string ⟨#[]⟩] 29 (0, 0))) := by rw [hW1, hXA]; exact heap_alloc_new w8 _
                    clear b8 hBa hAx
                    go_wp2_with fail
                    rw [← hW1, ← hXA]
                    clear hW1 hXA
                    refine (hBx _ (HBr.out.trans (HBa.out.mono HBr.out.size))).mono ?_
                    rintro e w9 ⟨rfl, b9⟩
                    obtain ⟨W2, hW2⟩ : ∃ W2, W2 = w9.alloc (.cells #[.string yp, .bool false, .string yi, .int .i64 yk, .int .i64 ym, .int .i64 yt, .string yb] 31) := ⟨_, rfl⟩
                    obtain ⟨XB, hXB⟩ : ∃ XB, XB = w9.heap.size := ⟨_, rfl⟩
                    have hBb : Below W1.heap.size W1 W2 := by rw [hW2]; exact b9.alloc b9.size _
                    have HBb : Hid (Below wr.heap.size wr W2) := HBa.out.trans (hBb.mono HBa.out.size)
                    have HMa2 : Hid (W2.heap[XA]? = some (.cells #[.string ⟨#[]⟩, .int .i64 0, .int .i64 0, .int .i64 0, .string ⟨#[]⟩] 29 (0, 0))) := (hBb.block _ (Array.getElem?_eq_some_iff.1 HMa.out).1).trans HMa.out
                    have HMb : Hid (W2.heap[XB]? = some (.cells #[.string yp, .bool false, .string yi, .int .i64 yk, .int .i64 ym, .int .i64 yt, .string yb] 31 (0, 0))) := by rw [hW2, hXB]; exact heap_alloc_new w9 _
                    have HXX : Hid (XA ≠ XB) := by
                      have h1 := (Array.getElem?_eq_some_iff.1 HMa.out).1
                      have h2 := b9.size
                      show _ ≠ _
                      omega
                    clear b9 hBb hBx HMa HBa
                    go_upto_region 24 with fail
                    rw [← hW2, ← hXB]
                    clear hW2 hXB
                    have keyA := fun j => cell_of_row W2 XA j _ _ _ HMa2.out
                    have keyB := fun j => cell_of_row W2 XB j _ _ _ HMb.out
                    have ca0 : W2.cell? ⟨XA, 0, none⟩ = some (.string ⟨#[]⟩) := keyA 0
                    have ca1 : W2.cell? ⟨XA, 1, none⟩ = some (.int .i64 0) := keyA 1
                    have ca2 : W2.cell? ⟨XA, 2, none⟩ = some (.int .i64 0) := keyA 2
                    have ca3 : W2.cell? ⟨XA, 3, none⟩ = some (.int .i64 0) := keyA 3
                    have ca4 : W2.cell? ⟨XA, 4, none⟩ = some (.string ⟨#[]⟩) := keyA 4
                    have cb0 : W2.cell? ⟨XB, 0, none⟩ = some (.string yp) := keyB 0
                    have cb1 : W2.cell? ⟨XB, 1, none⟩ = some (.bool false) := keyB 1
                    have cb2 : W2.cell? ⟨XB, 2, none⟩ = some (.string yi) := keyB 2
                    have cb3 : W2.cell? ⟨XB, 3, none⟩ = some (.int .i64 yk) := keyB 3
                    have cb4 : W2.cell? ⟨XB, 4, none⟩ = some (.int .i64 ym) := keyB 4
                    have cb5 : W2.cell? ⟨XB, 5, none⟩ = some (.int .i64 yt) := keyB 5
                    have cb6 : W2.cell? ⟨XB, 6, none⟩ = some (.string yb) := keyB 6
                    clear keyA keyB
                    have hzf : ∀ j, W2.frozen? ⟨XA, j, none⟩ = false := fun j => frozen_of_row W2 _ j _ _ HMa2.out
                    have fz0 := hzf 0
                    have fz1 := hzf 1
                    have fz2 := hzf 2
                    have fz3 := hzf 3
                    have fz4 := hzf 4
                    obtain ⟨W3, hW3⟩ : ∃ W3, W3 = ((((((W2.setCell ⟨XA, 0, none⟩ (.string yi)).setCell ⟨XA, 1, none⟩ (.int .i64 yk)).setCell ⟨XA, 2, none⟩ (.int .i64 ym)).setCell ⟨XA, 3, none⟩ (.int .i64 yt)).setCell ⟨XA, 4, none⟩ (.string yb))).drew := ⟨_, rfl⟩
                    have HXw : Hid (wr.heap.size ≤ XA) := HXl
                    have HBc : Hid (Below wr.heap.size wr W3) := by rw [hW3]; exact ((((((HBb.out.setCell (p := ⟨XA, 0, none⟩) HXw.out _).setCell (p := ⟨XA, 1, none⟩) HXw.out _).setCell (p := ⟨XA, 2, none⟩) HXw.out _).setCell (p := ⟨XA, 3, none⟩) HXw.out _).setCell (p := ⟨XA, 4, none⟩) HXw.out _)).drew
                    have HMc : Hid (W3.heap[XA]? = some (.cells #[.string yi, .int .i64 yk, .int .i64 ym, .int .i64 yt, .string yb] 29 (0, 0))) := by
                      rw [hW3]
                      have h := sets_blk (post := []) (imC ⟨yi, yk, ym, yt, yb⟩) [] [.string ⟨#[]⟩, .int .i64 0, .int .i64 0, .int .i64 0, .string ⟨#[]⟩] W2 HMa2.out rfl
                      rw [List.append_nil] at h
                      exact h
                    have hXX1 : XA ≠ XB := HXX.out
                    have hXX2 : XB ≠ XA := fun e => HXX.out e.symm
                    clear hzf
                    go_upto_region 25 with fail
                    go_region
                    all_goals
                      rw [← hW3]
                      clear hW3 hXX1 hXX2 ca0 ca1 ca2 ca3 ca4 cb0 cb1 cb2 cb3 cb4 cb5 cb6 fz0 fz1 fz2 fz3 fz4
                      have keyC := fun j => cell_of_row W3 XA j _ _ _ HMc.out
                      have cc0 : W3.cell? ⟨XA, 0, none⟩ = some (.string yi) := keyC 0
                      have cc1 : W3.cell? ⟨XA, 1, none⟩ = some (.int .i64 yk) := keyC 1
                      have cc2 : W3.cell? ⟨XA, 2, none⟩ = some (.int .i64 ym) := keyC 2
                      have cc3 : W3.cell? ⟨XA, 3, none⟩ = some (.int .i64 yt) := keyC 3
                      have cc4 : W3.cell? ⟨XA, 4, none⟩ = some (.string yb) := keyC 4
                      clear keyC
                      obtain ⟨s2, W6, hr6, ho6, hg6⟩ := more_ai w7.heap.size u13 ((m.take k).filterMap (tAR a b)) (⟨yi, yk, ym, yt, yb⟩ : Im) (W3.alloc (.cells #[.string yi, .int .i64 yk, .int .i64 ym, .int .i64 yt, .string yb] 29)) ((own_below HO.out HBc.out).alloc _) W3.heap.size (heap_alloc_new W3 _) (by have h1 := List.length_filterMap_le (tAR a b) (m.take k); rw [List.length_take] at h1; have := HMl.out; omega) (by have h1 := HB.out.size; have h2 := (HBc.out).size; simp; omega)
                      have HO6 : Hid (W6.ownsRow w7.heap.size 29 5 s2 ((m.take (k + 1)).filterMap (tAR a b)).length (rowR imC ((m.take (k + 1)).filterMap (tAR a b)))) := by
                        rw [told_step HPk.out, show tAR a b p = some (⟨yi, yk, ym, yt, yb⟩ : Im) from (tAR_some HBe.out).trans rfl, Option.toList_some]; exact ho6
                      have HB6 : Hid (Below w7.heap.size w7 W6) := ((HB.out.trans ((HBc.out).mono HB.out.size)).alloc (Nat.le_trans HB.out.size (HBc.out).size) _).grown hg6 (by have h1 := HB.out.size; have h2 := (HBc.out).size; simp; omega) fun g hg => (HO.out.lt g hg).1
                      clear ho6 hg6
                      go_wp2_with (at_builtin; refine wpL_append_run rfl (.tmp 81) (.tmp 83) 22 22 rfl rfl _ _ s2 W6 rfl rfl hr6 ?_)
                      clear hr6 cc0 cc1 cc2 cc3 cc4
                      go_roundw
                      case measure => simp only [intOf]; omega
                      case rel => exact ⟨k + 1, by omega, by go_num, HO6, HB6⟩
                | some x =>
                  obtain ⟨xp, xk, xm, xt, xb⟩ := x
                  cases yg with
                  | true =>
                    have hAx : ∀ W, Below w.heap.size w W → Calls Tryd.prog 27 #[.slice aa N1 ac, .string p] W fun e w' => e = .returned (.tuple #[.agg #[.string xp, .int .i64 xk, .int .i64 xm, .int .i64 xt, .string xb], .bool true]) ∧ Below W.heap.size W w' := hA
                    have hBx : ∀ W, Below w.heap.size w W → Calls Tryd.prog 31 #[.slice ba N2 bc, .string p] W fun e w' => e = .returned (.tuple #[.agg #[.string yp, .bool true, .string yi, .int .i64 yk, .int .i64 ym, .int .i64 yt, .string yb], .bool true]) ∧ Below W.heap.size W w' := hB
                    clear hA hB
                    go_wp2_with fail
                    refine (hAx _ HBr.out).mono ?_
                    rintro e w8 ⟨rfl, b8⟩
                    obtain ⟨W1, hW1⟩ : ∃ W1, W1 = w8.alloc (.cells #[.string xp, .int .i64 xk, .int .i64 xm, .int .i64 xt, .string xb] 29) := ⟨_, rfl⟩
                    obtain ⟨XA, hXA⟩ : ∃ XA, XA = w8.heap.size := ⟨_, rfl⟩
                    have hBa : Below wr.heap.size wr W1 := by rw [hW1]; exact b8.alloc b8.size _
                    have HXl : Hid (wr.heap.size ≤ XA) := by show _ ≤ _; rw [hXA]; exact b8.size
                    have HBa : Hid (Below wr.heap.size wr W1) := hBa
                    have HMa : Hid (W1.heap[XA]? = some (.cells #[.string xp, .int .i64 xk, .int .i64 xm, .int .i64 xt, .string xb] 29 (0, 0))) := by rw [hW1, hXA]; exact heap_alloc_new w8 _
                    clear b8 hBa hAx
                    go_wp2_with fail
                    rw [← hW1, ← hXA]
                    clear hW1 hXA
                    refine (hBx _ (HBr.out.trans (HBa.out.mono HBr.out.size))).mono ?_
                    rintro e w9 ⟨rfl, b9⟩
                    obtain ⟨W2, hW2⟩ : ∃ W2, W2 = w9.alloc (.cells #[.string yp, .bool true, .string yi, .int .i64 yk, .int .i64 ym, .int .i64 yt, .string yb] 31) := ⟨_, rfl⟩
                    obtain ⟨XB, hXB⟩ : ∃ XB, XB = w9.heap.size := ⟨_, rfl⟩
                    have hBb : Below W1.heap.size W1 W2 := by rw [hW2]; exact b9.alloc b9.size _
                    have HBb : Hid (Below wr.heap.size wr W2) := HBa.out.trans (hBb.mono HBa.out.size)
                    have HMa2 : Hid (W2.heap[XA]? = some (.cells #[.string xp, .int .i64 xk, .int .i64 xm, .int .i64 xt, .string xb] 29 (0, 0))) := (hBb.block _ (Array.getElem?_eq_some_iff.1 HMa.out).1).trans HMa.out
                    have HMb : Hid (W2.heap[XB]? = some (.cells #[.string yp, .bool true, .string yi, .int .i64 yk, .int .i64 ym, .int .i64 yt, .string yb] 31 (0, 0))) := by rw [hW2, hXB]; exact heap_alloc_new w9 _
                    have HXX : Hid (XA ≠ XB) := by
                      have h1 := (Array.getElem?_eq_some_iff.1 HMa.out).1
                      have h2 := b9.size
                      show _ ≠ _
                      omega
                    clear b9 hBb hBx HMa HBa
                    go_upto_region 24 with fail
                    rw [← hW2, ← hXB]
                    clear hW2 hXB
                    have keyA := fun j => cell_of_row W2 XA j _ _ _ HMa2.out
                    have keyB := fun j => cell_of_row W2 XB j _ _ _ HMb.out
                    have ca0 : W2.cell? ⟨XA, 0, none⟩ = some (.string xp) := keyA 0
                    have ca1 : W2.cell? ⟨XA, 1, none⟩ = some (.int .i64 xk) := keyA 1
                    have ca2 : W2.cell? ⟨XA, 2, none⟩ = some (.int .i64 xm) := keyA 2
                    have ca3 : W2.cell? ⟨XA, 3, none⟩ = some (.int .i64 xt) := keyA 3
                    have ca4 : W2.cell? ⟨XA, 4, none⟩ = some (.string xb) := keyA 4
                    have cb0 : W2.cell? ⟨XB, 0, none⟩ = some (.string yp) := keyB 0
                    have cb1 : W2.cell? ⟨XB, 1, none⟩ = some (.bool true) := keyB 1
                    have cb2 : W2.cell? ⟨XB, 2, none⟩ = some (.string yi) := keyB 2
                    have cb3 : W2.cell? ⟨XB, 3, none⟩ = some (.int .i64 yk) := keyB 3
                    have cb4 : W2.cell? ⟨XB, 4, none⟩ = some (.int .i64 ym) := keyB 4
                    have cb5 : W2.cell? ⟨XB, 5, none⟩ = some (.int .i64 yt) := keyB 5
                    have cb6 : W2.cell? ⟨XB, 6, none⟩ = some (.string yb) := keyB 6
                    clear keyA keyB
                    have hzf : ∀ j, W2.frozen? ⟨XA, j, none⟩ = false := fun j => frozen_of_row W2 _ j _ _ HMa2.out
                    have fz0 := hzf 0
                    have fz1 := hzf 1
                    have fz2 := hzf 2
                    have fz3 := hzf 3
                    have fz4 := hzf 4
                    obtain ⟨W3, hW3⟩ : ∃ W3, W3 = ((((((W2.setCell ⟨XA, 0, none⟩ (.string yi)).setCell ⟨XA, 1, none⟩ (.int .i64 yk)).setCell ⟨XA, 2, none⟩ (.int .i64 ym)).setCell ⟨XA, 3, none⟩ (.int .i64 yt)).setCell ⟨XA, 4, none⟩ (.string yb))).drew := ⟨_, rfl⟩
                    have HXw : Hid (wr.heap.size ≤ XA) := HXl
                    have HBc : Hid (Below wr.heap.size wr W3) := by rw [hW3]; exact ((((((HBb.out.setCell (p := ⟨XA, 0, none⟩) HXw.out _).setCell (p := ⟨XA, 1, none⟩) HXw.out _).setCell (p := ⟨XA, 2, none⟩) HXw.out _).setCell (p := ⟨XA, 3, none⟩) HXw.out _).setCell (p := ⟨XA, 4, none⟩) HXw.out _)).drew
                    have HMc : Hid (W3.heap[XA]? = some (.cells #[.string yi, .int .i64 yk, .int .i64 ym, .int .i64 yt, .string yb] 29 (0, 0))) := by
                      rw [hW3]
                      have h := sets_blk (post := []) (imC ⟨yi, yk, ym, yt, yb⟩) [] [.string xp, .int .i64 xk, .int .i64 xm, .int .i64 xt, .string xb] W2 HMa2.out rfl
                      rw [List.append_nil] at h
                      exact h
                    have hXX1 : XA ≠ XB := HXX.out
                    have hXX2 : XB ≠ XA := fun e => HXX.out e.symm
                    clear hzf
                    go_upto_region 25 with fail
                    go_region
                    all_goals
                      rw [← hW3]
                      clear hW3 hXX1 hXX2 ca0 ca1 ca2 ca3 ca4 cb0 cb1 cb2 cb3 cb4 cb5 cb6 fz0 fz1 fz2 fz3 fz4
                      have HO6 : Hid (W3.ownsRow w7.heap.size 29 5 u13 ((m.take (k + 1)).filterMap (tAR a b)).length (rowR imC ((m.take (k + 1)).filterMap (tAR a b)))) := by
                        rw [told_step HPk.out, show tAR a b p = none from (tAR_some HBe.out).trans rfl, Option.toList_none, List.append_nil]; exact own_below HO.out HBc.out
                      have HB6 : Hid (Below w7.heap.size w7 W3) := HB.out.trans ((HBc.out).mono HB.out.size)
                      go_wp2_with fail
                      clear HMc
                      go_roundw
                      case measure => simp only [intOf]; omega
                      case rel => exact ⟨k + 1, by omega, by go_num, HO6, HB6⟩
                  | false =>
                    have hAx : ∀ W, Below w.heap.size w W → Calls Tryd.prog 27 #[.slice aa N1 ac, .string p] W fun e w' => e = .returned (.tuple #[.agg #[.string xp, .int .i64 xk, .int .i64 xm, .int .i64 xt, .string xb], .bool true]) ∧ Below W.heap.size W w' := hA
                    have hBx : ∀ W, Below w.heap.size w W → Calls Tryd.prog 31 #[.slice ba N2 bc, .string p] W fun e w' => e = .returned (.tuple #[.agg #[.string yp, .bool false, .string yi, .int .i64 yk, .int .i64 ym, .int .i64 yt, .string yb], .bool true]) ∧ Below W.heap.size W w' := hB
                    clear hA hB
                    go_wp2_with fail
                    refine (hAx _ HBr.out).mono ?_
                    rintro e w8 ⟨rfl, b8⟩
                    obtain ⟨W1, hW1⟩ : ∃ W1, W1 = w8.alloc (.cells #[.string xp, .int .i64 xk, .int .i64 xm, .int .i64 xt, .string xb] 29) := ⟨_, rfl⟩
                    obtain ⟨XA, hXA⟩ : ∃ XA, XA = w8.heap.size := ⟨_, rfl⟩
                    have hBa : Below wr.heap.size wr W1 := by rw [hW1]; exact b8.alloc b8.size _
                    have HXl : Hid (wr.heap.size ≤ XA) := by show _ ≤ _; rw [hXA]; exact b8.size
                    have HBa : Hid (Below wr.heap.size wr W1) := hBa
                    have HMa : Hid (W1.heap[XA]? = some (.cells #[.string xp, .int .i64 xk, .int .i64 xm, .int .i64 xt, .string xb] 29 (0, 0))) := by rw [hW1, hXA]; exact heap_alloc_new w8 _
                    clear b8 hBa hAx
                    go_wp2_with fail
                    rw [← hW1, ← hXA]
                    clear hW1 hXA
                    refine (hBx _ (HBr.out.trans (HBa.out.mono HBr.out.size))).mono ?_
                    rintro e w9 ⟨rfl, b9⟩
                    obtain ⟨W2, hW2⟩ : ∃ W2, W2 = w9.alloc (.cells #[.string yp, .bool false, .string yi, .int .i64 yk, .int .i64 ym, .int .i64 yt, .string yb] 31) := ⟨_, rfl⟩
                    obtain ⟨XB, hXB⟩ : ∃ XB, XB = w9.heap.size := ⟨_, rfl⟩
                    have hBb : Below W1.heap.size W1 W2 := by rw [hW2]; exact b9.alloc b9.size _
                    have HBb : Hid (Below wr.heap.size wr W2) := HBa.out.trans (hBb.mono HBa.out.size)
                    have HMa2 : Hid (W2.heap[XA]? = some (.cells #[.string xp, .int .i64 xk, .int .i64 xm, .int .i64 xt, .string xb] 29 (0, 0))) := (hBb.block _ (Array.getElem?_eq_some_iff.1 HMa.out).1).trans HMa.out
                    have HMb : Hid (W2.heap[XB]? = some (.cells #[.string yp, .bool false, .string yi, .int .i64 yk, .int .i64 ym, .int .i64 yt, .string yb] 31 (0, 0))) := by rw [hW2, hXB]; exact heap_alloc_new w9 _
                    have HXX : Hid (XA ≠ XB) := by
                      have h1 := (Array.getElem?_eq_some_iff.1 HMa.out).1
                      have h2 := b9.size
                      show _ ≠ _
                      omega
                    clear b9 hBb hBx HMa HBa
                    go_upto_region 24 with fail
                    rw [← hW2, ← hXB]
                    clear hW2 hXB
                    have keyA := fun j => cell_of_row W2 XA j _ _ _ HMa2.out
                    have keyB := fun j => cell_of_row W2 XB j _ _ _ HMb.out
                    have ca0 : W2.cell? ⟨XA, 0, none⟩ = some (.string xp) := keyA 0
                    have ca1 : W2.cell? ⟨XA, 1, none⟩ = some (.int .i64 xk) := keyA 1
                    have ca2 : W2.cell? ⟨XA, 2, none⟩ = some (.int .i64 xm) := keyA 2
                    have ca3 : W2.cell? ⟨XA, 3, none⟩ = some (.int .i64 xt) := keyA 3
                    have ca4 : W2.cell? ⟨XA, 4, none⟩ = some (.string xb) := keyA 4
                    have cb0 : W2.cell? ⟨XB, 0, none⟩ = some (.string yp) := keyB 0
                    have cb1 : W2.cell? ⟨XB, 1, none⟩ = some (.bool false) := keyB 1
                    have cb2 : W2.cell? ⟨XB, 2, none⟩ = some (.string yi) := keyB 2
                    have cb3 : W2.cell? ⟨XB, 3, none⟩ = some (.int .i64 yk) := keyB 3
                    have cb4 : W2.cell? ⟨XB, 4, none⟩ = some (.int .i64 ym) := keyB 4
                    have cb5 : W2.cell? ⟨XB, 5, none⟩ = some (.int .i64 yt) := keyB 5
                    have cb6 : W2.cell? ⟨XB, 6, none⟩ = some (.string yb) := keyB 6
                    clear keyA keyB
                    have hzf : ∀ j, W2.frozen? ⟨XA, j, none⟩ = false := fun j => frozen_of_row W2 _ j _ _ HMa2.out
                    have fz0 := hzf 0
                    have fz1 := hzf 1
                    have fz2 := hzf 2
                    have fz3 := hzf 3
                    have fz4 := hzf 4
                    obtain ⟨W3, hW3⟩ : ∃ W3, W3 = ((((((W2.setCell ⟨XA, 0, none⟩ (.string yi)).setCell ⟨XA, 1, none⟩ (.int .i64 yk)).setCell ⟨XA, 2, none⟩ (.int .i64 ym)).setCell ⟨XA, 3, none⟩ (.int .i64 yt)).setCell ⟨XA, 4, none⟩ (.string yb))).drew := ⟨_, rfl⟩
                    have HXw : Hid (wr.heap.size ≤ XA) := HXl
                    have HBc : Hid (Below wr.heap.size wr W3) := by rw [hW3]; exact ((((((HBb.out.setCell (p := ⟨XA, 0, none⟩) HXw.out _).setCell (p := ⟨XA, 1, none⟩) HXw.out _).setCell (p := ⟨XA, 2, none⟩) HXw.out _).setCell (p := ⟨XA, 3, none⟩) HXw.out _).setCell (p := ⟨XA, 4, none⟩) HXw.out _)).drew
                    have HMc : Hid (W3.heap[XA]? = some (.cells #[.string yi, .int .i64 yk, .int .i64 ym, .int .i64 yt, .string yb] 29 (0, 0))) := by
                      rw [hW3]
                      have h := sets_blk (post := []) (imC ⟨yi, yk, ym, yt, yb⟩) [] [.string xp, .int .i64 xk, .int .i64 xm, .int .i64 xt, .string xb] W2 HMa2.out rfl
                      rw [List.append_nil] at h
                      exact h
                    have hXX1 : XA ≠ XB := HXX.out
                    have hXX2 : XB ≠ XA := fun e => HXX.out e.symm
                    clear hzf
                    go_upto_region 25 with fail
                    go_region
                    all_goals
                      rw [← hW3]
                      clear hW3 hXX1 hXX2 ca0 ca1 ca2 ca3 ca4 cb0 cb1 cb2 cb3 cb4 cb5 cb6 fz0 fz1 fz2 fz3 fz4
                      have keyC := fun j => cell_of_row W3 XA j _ _ _ HMc.out
                      have cc0 : W3.cell? ⟨XA, 0, none⟩ = some (.string yi) := keyC 0
                      have cc1 : W3.cell? ⟨XA, 1, none⟩ = some (.int .i64 yk) := keyC 1
                      have cc2 : W3.cell? ⟨XA, 2, none⟩ = some (.int .i64 ym) := keyC 2
                      have cc3 : W3.cell? ⟨XA, 3, none⟩ = some (.int .i64 yt) := keyC 3
                      have cc4 : W3.cell? ⟨XA, 4, none⟩ = some (.string yb) := keyC 4
                      clear keyC
                      obtain ⟨s2, W6, hr6, ho6, hg6⟩ := more_ai w7.heap.size u13 ((m.take k).filterMap (tAR a b)) (⟨yi, yk, ym, yt, yb⟩ : Im) (W3.alloc (.cells #[.string yi, .int .i64 yk, .int .i64 ym, .int .i64 yt, .string yb] 29)) ((own_below HO.out HBc.out).alloc _) W3.heap.size (heap_alloc_new W3 _) (by have h1 := List.length_filterMap_le (tAR a b) (m.take k); rw [List.length_take] at h1; have := HMl.out; omega) (by have h1 := HB.out.size; have h2 := (HBc.out).size; simp; omega)
                      have HO6 : Hid (W6.ownsRow w7.heap.size 29 5 s2 ((m.take (k + 1)).filterMap (tAR a b)).length (rowR imC ((m.take (k + 1)).filterMap (tAR a b)))) := by
                        rw [told_step HPk.out, show tAR a b p = some (⟨yi, yk, ym, yt, yb⟩ : Im) from (tAR_some HBe.out).trans rfl, Option.toList_some]; exact ho6
                      have HB6 : Hid (Below w7.heap.size w7 W6) := ((HB.out.trans ((HBc.out).mono HB.out.size)).alloc (Nat.le_trans HB.out.size (HBc.out).size) _).grown hg6 (by have h1 := HB.out.size; have h2 := (HBc.out).size; simp; omega) fun g hg => (HO.out.lt g hg).1
                      clear ho6 hg6
                      go_wp2_with (at_builtin; refine wpL_append_run rfl (.tmp 81) (.tmp 83) 22 22 rfl rfl _ _ s2 W6 rfl rfl hr6 ?_)
                      clear hr6 cc0 cc1 cc2 cc3 cc4
                      go_roundw
                      case measure => simp only [intOf]; omega
                      case rel => exact ⟨k + 1, by omega, by go_num, HO6, HB6⟩
            · obtain rfl : M = k := by omega
              have HO2 : Hid (wr.ownsRow w7.heap.size 29 5 u13 (m.filterMap (tAR a b)).length (rowR imC (m.filterMap (tAR a b)))) := by
                have h := HO.out
                rw [List.take_of_length_le (by have := HM.out; omega)] at h
                exact h
              have HBw : Hid (Below w.heap.size w wr) := HB7.out.trans (HB.out.mono HB7.out.size)
              have HLo : Hid ((m.filterMap (tAR a b)).length ≤ 1000) := Nat.le_trans (List.length_filterMap_le _ _) HMl.out
              clear HO HB
              have HAp : Hid (Dl.appL (its a) (edl b) = its (m.filterMap (tAR a b))) := by
                show _ = _
                unfold Dl.appL
                rw [← HDm.out]
                exact told_dl (u := Im.it) (appE_R a b)
              have HR3 : Hid (RP = if Wk.world (its (m.filterMap (tAR a b))) ≠ 0 then ([], Wk.world (its (m.filterMap (tAR a b)))) else (its (m.filterMap (tAR a b)), 0)) := by
                show _ = _
                rw [HP.out, if_neg (fun q => q HEA0.out), if_neg (fun q => q HEB0.out), HAp.out]
              have HOf : Hid (wr.ownsRow w.heap.size 29 5 u13 (m.filterMap (tAR a b)).length (rowR imC (m.filterMap (tAR a b)))) := own_lower HO2.out HB7.out.size
              have hss : ∀ x ∈ m.filterMap (tAR a b), x.path.size ≤ 1048576 ∧ x.bytes.size ≤ 1048576 := fun x hx => by
                obtain ⟨p, _, e⟩ := List.mem_filterMap.1 hx
                unfold tAR at e
                cases h : atE b p with
                | none => rw [h] at e; exact HSa.out x (atI_mem e)
                | some y =>
                  rw [h] at e
                  dsimp only at e
                  split at e
                  · cases e
                  · cases e; exact (HSb.out y (atE_mem h)).2
              have hwc := rworld_any u13 (m.filterMap (tAR a b)) wr (Rx.of_own imC_length HOf.out) hss
              obtain ⟨EC, hEC⟩ : ∃ EC, EC = Wk.world (its (m.filterMap (tAR a b))) := ⟨_, rfl⟩
              rw [← hEC] at hwc HR3
              clear HP hEC hss HO2
              go_wp2_with fail
              refine hwc.mono ?_
              rintro e w8 ⟨rfl, b8⟩
              have HB8 : Hid (Below w.heap.size w w8) := HBw.out.trans (b8.mono HBw.out.size)
              have HO8 : Hid (w8.ownsRow w.heap.size 29 5 u13 (m.filterMap (tAR a b)).length (rowR imC (m.filterMap (tAR a b)))) := own_below HOf.out b8
              clear hwc b8 HOf
              by_cases c3 : EC = 0
              case neg =>
                have hne : (EC != 0) = true := by rw [bne_iff_ne]; exact c3
                have HRe : Hid (RP = ([], EC)) := by show _ = _; rw [HR3.out, if_pos c3]
                clear HR3
                go_wp2_with fail
                go_ret2
                exact ⟨_, [], by rw [HRe.out]; rfl, World.ownsRow_nil _ _ _ _, by rw [HRe.out]; rfl, HB8.out⟩
              have hne : (EC != 0) = false := by rw [c3]; rfl
              have HRe : Hid (RP = (its (m.filterMap (tAR a b)), 0)) := by show _ = _; rw [HR3.out, if_neg (fun q => q c3)]
              clear HR3 c3
              go_wp2_with fail
              go_ret2
              first
                | exact ⟨_, _, by rw [HRe.out]; rfl, HO8.out, by rw [HRe.out], HB8.out⟩
                | exact ⟨_, by rw [HRe.out]; rfl, _, HO8.out, by rw [HRe.out], HB8.out⟩

end Go.Proofs.YthpcbbkpjggjbaaDoor

namespace Go.Proofs.YthpcbbkpjggjbaaDoor
open Go.RowKit
set_option maxRecDepth 4000

set_option maxHeartbeats 16000000 in
theorem rjoinE_any (va vb : Value) (a : List Em) (b : List Em) (w : World) (ha : Eds w va a) (hb : Eds w vb b) (la : a.length ≤ 140737488351232) (lb : b.length ≤ 140737488351232) (oa : ∀ x ∈ a, x.path.size ≤ 1048576 ∧ x.item.path.size ≤ 1048576 ∧ x.item.bytes.size ≤ 1048576) (ob : ∀ x ∈ b, x.path.size ≤ 1048576 ∧ x.item.path.size ≤ 1048576 ∧ x.item.bytes.size ≤ 1048576) :
    Calls Tryd.prog 14 #[va, vb] w fun e w' => ∃ v l, e = .returned (.tuple #[v, .int .i64 (Dl.join (edl a) (edl b)).2]) ∧ w'.ownsRow w.heap.size 31 7 v l.length (rowR emC l) ∧ edl l = (Dl.join (edl a) (edl b)).1 ∧ Below w.heap.size w w' := by
  have hca := redits_any va a w ha la (fun x hx => (oa x hx).1)
  have HCb : Hid (∀ W, Below w.heap.size w W → Calls Tryd.prog 16 #[vb] W fun e w' => e = .returned (.int .i64 (Dl.check (edl b))) ∧ Below W.heap.size W w') := fun W hW => redits_any vb b W (hb.below hW) lb (fun x hx => (ob x hx).1)
  have HP : Hid (Dl.join (edl a) (edl b) = if Dl.check (edl a) ≠ 0 then ([], Dl.check (edl a)) else if Dl.check (edl b) ≠ 0 then ([], Dl.check (edl b)) else if 200 < (Dl.joinL (edl a) (edl b)).length then ([], 2) else (Dl.joinL (edl a) (edl b), 0)) := rfl
  have HXa : Hid (Eds w va a) := ha
  have HXb : Hid (Eds w vb b) := hb
  have HOa : Hid (∀ x ∈ a, x.path.size ≤ 4194304) := fun x hx => by have := (oa x hx).1; omega
  have HOb : Hid (∀ x ∈ b, x.path.size ≤ 4194304) := fun x hx => by have := (ob x hx).1; omega
  have HSa : Hid (∀ x ∈ a, x.path.size ≤ 1048576 ∧ x.item.path.size ≤ 1048576 ∧ x.item.bytes.size ≤ 1048576) := oa
  have HSb : Hid (∀ x ∈ b, x.path.size ≤ 1048576 ∧ x.item.path.size ≤ 1048576 ∧ x.item.bytes.size ≤ 1048576) := ob
  obtain ⟨RP, hRP⟩ : ∃ RP, RP = Dl.join (edl a) (edl b) := ⟨_, rfl⟩
  rw [← hRP] at HP ⊢
  obtain ⟨EA, hEA⟩ : ∃ EA, EA = Dl.check (edl a) := ⟨_, rfl⟩
  obtain ⟨EB, hEB⟩ : ∃ EB, EB = Dl.check (edl b) := ⟨_, rfl⟩
  rw [← hEA] at hca
  rw [← hEB] at HCb
  have HEA : Hid (EA = Dl.check (edl a)) := hEA
  have HEB : Hid (EB = Dl.check (edl b)) := hEB
  clear ha hb la lb oa ob hRP hEA hEB
  go_enter Tryd.func14, Tryd.ntmps14
  go_wp2_with fail
  refine hca.mono ?_
  rintro e w1 ⟨rfl, b1⟩
  have HB1 : Hid (Below w.heap.size w w1) := b1
  clear hca b1
  by_cases c1 : EA = 0
  case neg =>
    have hne : (EA != 0) = true := by rw [bne_iff_ne]; exact c1
    have HRe : Hid (RP = ([], EA)) := by show _ = _; rw [HP.out, ← HEA.out, if_pos c1]
    clear HP HCb
    go_wp2_with fail
    go_ret2
    exact ⟨_, [], by rw [HRe.out]; rfl, World.ownsRow_nil _ _ _ _, by rw [HRe.out]; rfl, HB1.out⟩
  have hne : (EA != 0) = false := by rw [c1]; rfl
  have HEA0 : Hid (Dl.check (edl a) = 0) := by show _ = _; rw [← HEA.out]; exact c1
  go_wp2_with fail
  refine (HCb.out _ HB1.out).mono ?_
  rintro e w2 ⟨rfl, b2⟩
  have HB2 : Hid (Below w.heap.size w w2) := HB1.out.trans (b2.mono HB1.out.size)
  clear HCb b2 hne c1
  by_cases c2 : EB = 0
  case neg =>
    have hne : (EB != 0) = true := by rw [bne_iff_ne]; exact c2
    have HRe : Hid (RP = ([], EB)) := by show _ = _; rw [HP.out, if_neg (fun q => q HEA0.out), ← HEB.out, if_pos c2]
    clear HP
    go_wp2_with fail
    go_ret2
    exact ⟨_, [], by rw [HRe.out]; rfl, World.ownsRow_nil _ _ _ _, by rw [HRe.out]; rfl, HB2.out⟩
  have hne : (EB != 0) = false := by rw [c2]; rfl
  have HEB0 : Hid (Dl.check (edl b) = 0) := by show _ = _; rw [← HEB.out]; exact c2
  have hlen : a.length + b.length ≤ 1000 := by
    have h1 := (Dl.check_ok.1 HEA0.out).1; have h2 := (Dl.check_ok.1 HEB0.out).1; rw [edl_length] at h1 h2; omega
  have HLa : Hid (a.length + b.length ≤ 1000) := hlen
  have hcl := clone_cem va a w2 (HXa.out.below HB2.out) (by have := hlen; omega)
  have hlen2 := hlen
  go_wp2_with fail
  clear c2 hne
  refine hcl.mono ?_
  rintro e w3 ⟨v3, rfl, h3, b3⟩
  have HB3 : Hid (Below w.heap.size w w3) := HB2.out.trans (b3.mono HB2.out.size)
  obtain ⟨v5, w5, hr5, ho5, hg5⟩ := cat_row (SL := 23) Tryd.underlying23 info_ae rfl (by decide) emC_length emC_one w2.heap.size v3 vb a b w3 h3 (HXb.out.below HB3.out) (by omega) (by omega) b3.size
  have HB5 : Hid (Below w.heap.size w w5) := HB2.out.trans ((b3.grown hg5 b3.size fun g hg => (h3.lt g hg).1).mono HB2.out.size)
  obtain ⟨X, hX⟩ : ∃ X, X = a ++ b := ⟨_, rfl⟩
  have HXe : Hid (X = a ++ b) := hX
  rw [← hX] at ho5
  have HX5 : Hid (Eds w5 v5 X) := Rx.of_own emC_length ho5
  obtain ⟨xa, xc, rfl⟩ := own_form ho5
  obtain ⟨N, hN⟩ : ∃ N, N = X.length := ⟨_, rfl⟩
  have HN : Hid (N = X.length) := hN
  have HLn : Hid (X.length ≤ 1000) := by show _ ≤ _; rw [hX, List.length_append]; omega
  rw [← hN] at HX5 hr5
  have hN3 : N ≤ 1000 := by have := HLn.out; omega
  clear hcl h3 b3 hg5 ho5 hX hN hlen hlen2
  go_wp2_with (at_builtin; refine wpL_append_run rfl (.tmp 27) (.tmp 28) 23 23 rfl rfl _ _ (.slice xa N xc) w5 rfl rfl hr5 ?_)
  clear hr5
  go_loopw [8, 31] (fun s i wr => ∃ k : Nat, k ≤ N ∧ i = .int .i64 k ∧ Hid (wr.ownsRow w5.heap.size 9 1 s (([] : List ByteArray) ++ (X.take k).map Em.path).length ((([] : List ByteArray) ++ (X.take k).map Em.path).map Tv)) ∧ Hid (Below w5.heap.size w5 wr)) (fun _ i _ => N - (intOf i).toNat)
  case atStart => exact ⟨0, by omega, rfl, by show World.ownsRow _ _ _ _ _ _ _; simpa using World.ownsRow_nil w5 w5.heap.size 9 1, Below.refl _ _⟩
  case round =>
    obtain ⟨k, hk, rfl, HO, HB⟩ := hrel
    by_cases hlt : k < N
    · obtain ⟨x, hx⟩ : ∃ x, X[k]? = some x := ⟨_, List.getElem?_eq_getElem (by have := HN.out; omega)⟩
      obtain ⟨bk, o, rfl, hbk, c0, c1, c2, c3, c4, c5, c6⟩ := (HX5.out.below HB.out).edit k x hx
      have HDn : Hid ((([] : List ByteArray) ++ (X.take (k + 1)).map Em.path) = (([] : List ByteArray) ++ (X.take k).map Em.path) ++ [x.path]) := by show _ = _; rw [List.take_add_one, hx]; simp
      obtain ⟨xp, xg, ⟨xi, xk, xm, xt, xb⟩⟩ := x
      dsimp only at c0 c1 c2 c3 c4 c5 c6 HDn
      obtain ⟨s2, W6, hr6, ho6, hg6⟩ := more_tx w5.heap.size u8 (([] : List ByteArray) ++ (X.take k).map Em.path) xp ((wr.alloc (.cells #[.string xp, .bool xg, .string xi, .int .i64 xk, .int .i64 xm, .int .i64 xt, .string xb] 31)).alloc (.cells #[.string xp] 9)) ((HO.out.alloc _).alloc _) (wr.heap.size + 1) (by rw [show wr.heap.size + 1 = (wr.alloc (.cells #[.string xp, .bool xg, .string xi, .int .i64 xk, .int .i64 xm, .int .i64 xt, .string xb] 31)).heap.size from by simp]; exact heap_alloc_new _ _) (by have := HLn.out; have := HN.out; have : ([] : List ByteArray).length = 0 := rfl; simp only [List.length_append, List.length_map, List.length_take]; omega) (by have := HB.out.size; simp; omega)
      have HO6 : Hid (W6.ownsRow w5.heap.size 9 1 s2 (([] : List ByteArray) ++ (X.take (k + 1)).map Em.path).length ((([] : List ByteArray) ++ (X.take (k + 1)).map Em.path).map Tv)) := by
        rw [HDn.out]; exact ho6
      have HB6 : Hid (Below w5.heap.size w5 W6) := (((HB.out.alloc HB.out.size _).alloc (by have := HB.out.size; simp; omega) _)).grown hg6 (by have := HB.out.size; simp; omega) fun g hg => (HO.out.lt g hg).1
      clear ho6 hg6 hx HDn
      go_wp2_with (at_builtin; refine wpL_append_run rfl (.tmp 35) (.tmp 38) 50 50 rfl rfl _ _ s2 W6 rfl rfl hr6 ?_)
      clear hr6 c0 c1 c2 c3 c4 c5 c6
      go_roundw
      case measure => simp only [intOf]; omega
      case rel => exact ⟨k + 1, by omega, by go_num, HO6, HB6⟩
    · obtain rfl : N = k := by omega
      have HO1 : Hid (wr.ownsRow w5.heap.size 9 1 u8 (X.map Em.path).length ((X.map Em.path).map Tv)) := by
        have h := HO.out
        rw [List.take_of_length_le (by have := HN.out; omega), List.nil_append] at h
        exact h
      have hps : ∀ s ∈ (X.map Em.path), s.size ≤ 4194304 := by
        intro s hs
        obtain ⟨x, hx, rfl⟩ := List.mem_map.1 hs
        rw [HXe.out] at hx
        rcases List.mem_append.1 hx with q | q
        · exact HOa.out x q
        · exact HOb.out x q
      have hap := rpaths_any u8 (X.map Em.path) wr (Tx.of_own HO1.out) (by have := HLn.out; have := HN.out; rw [List.length_map]; omega) hps
      have HBw6 : Hid (Below w.heap.size w wr) := HB5.out.trans (HB.out.mono HB5.out.size)
      have HBx6 := HB
      clear HO HB hps
      go_wp2_with fail
      refine hap.mono ?_
      rintro e w7 ⟨v7, m, rfl, h7, hm, hmi, b7⟩
      have HB7 : Hid (Below w.heap.size w w7) := HBw6.out.trans (b7.mono HBw6.out.size)
      have HMi : Hid (∀ q ∈ m, q ∈ (X.map Em.path)) := hmi
      have HDm : Hid (dl m = Dl.paths ((edl a).map Dl.Ed.path ++ (edl b).map Dl.Ed.path)) := by
        show _ = _
        rw [hm]
        congr 1
        rw [HXe.out]; unfold dl edl; simp [Em.ed, Function.comp_def]
      have HMl : Hid (m.length ≤ 1000) := by
        have h1 := congrArg List.length hm
        have h2 := Dl.paths_len (dl (X.map Em.path))
        rw [dl_length] at h1 h2
        have := HLn.out
        have := HN.out
        show _ ≤ _
        rw [List.length_map] at h2; omega
      have hTm := Tx.of_own h7
      obtain ⟨ma, mc, rfl⟩ := own_form h7
      obtain ⟨M, hM⟩ : ∃ M, M = m.length := ⟨_, rfl⟩
      have HM : Hid (M = m.length) := hM
      rw [← hM] at hTm ⊢
      have HTm : Hid (Tx w7 (.slice ma M mc) m) := hTm
      have hM3 : M ≤ 1000 := by have := HMl.out; omega
      clear hap b7 hm hmi hM hTm h7 HBw6 HBx6 HO1
      go_wp2_with fail
      go_loopw [11, 44] (fun s i wr => ∃ k : Nat, k ≤ M ∧ i = .int .i64 k ∧ Hid (wr.ownsRow w7.heap.size 31 7 s ((m.take k).filterMap (tJR a b)).length (rowR emC ((m.take k).filterMap (tJR a b)))) ∧ Hid (Below w7.heap.size w7 wr)) (fun _ i _ => M - (intOf i).toNat)
      case atStart => exact ⟨0, by omega, rfl, World.ownsRow_nil _ _ _ _, Below.refl _ _⟩
      case round =>
        obtain ⟨k, hk, rfl, HO, HB⟩ := hrel
        by_cases hlt : k < M
        · have hkm : k < m.length := by have := HM.out; omega
          obtain ⟨bk, o, rfl, hbk, x0⟩ := (HTm.out.below HB.out).get k hkm
          obtain ⟨p, hp⟩ : ∃ p, m[k]? = some p := ⟨_, List.getElem?_eq_getElem hkm⟩
          rw [List.getD_eq_getElem?_getD, hp, Option.getD_some] at x0
          have HPk : Hid (m[k]? = some p) := hp
          have HBr : Hid (Below w.heap.size w wr) := HB7.out.trans (HB.out.mono HB7.out.size)
          have hA := fun (W : World) (hW : Below w.heap.size w W) => atE_any va a p W (HXa.out.below hW) (by have := HLa.out; omega)
          have hB := fun (W : World) (hW : Below w.heap.size w W) => atE_any vb b p W (HXb.out.below hW) (by have := HLa.out; omega)
          obtain ⟨A, hAe⟩ : ∃ A, A = atE a p := ⟨_, rfl⟩
          obtain ⟨B, hBe⟩ : ∃ B, B = atE b p := ⟨_, rfl⟩
          rw [← hAe] at hA
          rw [← hBe] at hB
          have HAe : Hid (A = atE a p) := hAe
          have HBe : Hid (B = atE b p) := hBe
          clear hAe hBe hp hkm
          cases B with
          | some y =>
            obtain ⟨yp, yg, ⟨yi, yk, ym, yt, yb⟩⟩ := y
            have hBx : ∀ W, Below w.heap.size w W → Calls Tryd.prog 31 #[vb, .string p] W fun e w' => e = .returned (.tuple #[.agg #[.string yp, .bool yg, .string yi, .int .i64 yk, .int .i64 ym, .int .i64 yt, .string yb], .bool true]) ∧ Below W.heap.size W w' := hB
            clear hB
            go_wp2_with fail
            refine (hBx _ HBr.out).mono ?_
            rintro e w9 ⟨rfl, b9⟩
            obtain ⟨W2, hW2⟩ : ∃ W2, W2 = w9.alloc (.cells #[.string yp, .bool yg, .string yi, .int .i64 yk, .int .i64 ym, .int .i64 yt, .string yb] 31) := ⟨_, rfl⟩
            obtain ⟨XB, hXB⟩ : ∃ XB, XB = w9.heap.size := ⟨_, rfl⟩
            have hBb : Below wr.heap.size wr W2 := by rw [hW2]; exact b9.alloc b9.size _
            have HBb : Hid (Below wr.heap.size wr W2) := hBb
            have HMb : Hid (W2.heap[XB]? = some (.cells #[.string yp, .bool yg, .string yi, .int .i64 yk, .int .i64 ym, .int .i64 yt, .string yb] 31 (0, 0))) := by rw [hW2, hXB]; exact heap_alloc_new w9 _
            have HXw : Hid (wr.heap.size ≤ XB) := by show _ ≤ _; rw [hXB]; exact b9.size
            clear b9 hBb hBx
            go_upto_region 18 with fail
            rw [← hW2, ← hXB]
            clear hW2 hXB
            have keyB := fun j => cell_of_row W2 XB j _ _ _ HMb.out
            have cb0 : W2.cell? ⟨XB, 0, none⟩ = some (.string yp) := keyB 0
            have cb1 : W2.cell? ⟨XB, 1, none⟩ = some (.bool yg) := keyB 1
            have cb2 : W2.cell? ⟨XB, 2, none⟩ = some (.string yi) := keyB 2
            have cb3 : W2.cell? ⟨XB, 3, none⟩ = some (.int .i64 yk) := keyB 3
            have cb4 : W2.cell? ⟨XB, 4, none⟩ = some (.int .i64 ym) := keyB 4
            have cb5 : W2.cell? ⟨XB, 5, none⟩ = some (.int .i64 yt) := keyB 5
            have cb6 : W2.cell? ⟨XB, 6, none⟩ = some (.string yb) := keyB 6
            clear keyB
            clear hA
            obtain ⟨s2, W6, hr6, ho6, hg6⟩ := more_ae w7.heap.size u11 ((m.take k).filterMap (tJR a b)) (⟨yp, yg, ⟨yi, yk, ym, yt, yb⟩⟩ : Em) (W2.alloc (.cells #[.string yp, .bool yg, .string yi, .int .i64 yk, .int .i64 ym, .int .i64 yt, .string yb] 31)) ((own_below HO.out HBb.out).alloc _) W2.heap.size (heap_alloc_new W2 _) (by have h1 := List.length_filterMap_le (tJR a b) (m.take k); rw [List.length_take] at h1; have := HMl.out; omega) (by have h1 := HB.out.size; have h2 := (HBb.out).size; simp; omega)
            have HO6 : Hid (W6.ownsRow w7.heap.size 31 7 s2 ((m.take (k + 1)).filterMap (tJR a b)).length (rowR emC ((m.take (k + 1)).filterMap (tJR a b)))) := by
              rw [told_step HPk.out, show tJR a b p = some (⟨yp, yg, ⟨yi, yk, ym, yt, yb⟩⟩ : Em) from tJR_some HBe.out, Option.toList_some]; exact ho6
            have HB6 : Hid (Below w7.heap.size w7 W6) := ((HB.out.trans ((HBb.out).mono HB.out.size)).alloc (Nat.le_trans HB.out.size (HBb.out).size) _).grown hg6 (by have h1 := HB.out.size; have h2 := (HBb.out).size; simp; omega) fun g hg => (HO.out.lt g hg).1
            clear ho6 hg6
            go_wp2_with (at_builtin; refine wpL_append_run rfl (.tmp 62) (.tmp 64) 23 23 rfl rfl _ _ s2 W6 rfl rfl hr6 ?_)
            clear hr6 cb0 cb1 cb2 cb3 cb4 cb5 cb6
            go_roundw
            case measure => simp only [intOf]; omega
            case rel => exact ⟨k + 1, by omega, by go_num, HO6, HB6⟩
          | none =>
            cases A with
            | none =>
              exfalso
              have hq := HMi.out p (List.mem_of_getElem? HPk.out)
              obtain ⟨x, hx, e⟩ := List.mem_map.1 hq
              rw [HXe.out] at hx
              rcases List.mem_append.1 hx with q | q
              · exact atE_none HAe.out x q e
              · exact atE_none HBe.out x q e
            | some x =>
              obtain ⟨xp, xg, ⟨xi, xk, xm, xt, xb⟩⟩ := x
              have hBx : ∀ W, Below w.heap.size w W → Calls Tryd.prog 31 #[vb, .string p] W fun e w' => e = .returned (.tuple #[.agg #[.string ⟨#[]⟩, .bool false, .string ⟨#[]⟩, .int .i64 0, .int .i64 0, .int .i64 0, .string ⟨#[]⟩], .bool false]) ∧ Below W.heap.size W w' := hB
              clear hB
              go_wp2_with fail
              refine (hBx _ HBr.out).mono ?_
              rintro e w9 ⟨rfl, b9⟩
              obtain ⟨W2, hW2⟩ : ∃ W2, W2 = w9.alloc (.cells #[.string ⟨#[]⟩, .bool false, .string ⟨#[]⟩, .int .i64 0, .int .i64 0, .int .i64 0, .string ⟨#[]⟩] 31) := ⟨_, rfl⟩
              obtain ⟨XB, hXB⟩ : ∃ XB, XB = w9.heap.size := ⟨_, rfl⟩
              have hBb : Below wr.heap.size wr W2 := by rw [hW2]; exact b9.alloc b9.size _
              have HBb : Hid (Below wr.heap.size wr W2) := hBb
              have HMb : Hid (W2.heap[XB]? = some (.cells #[.string ⟨#[]⟩, .bool false, .string ⟨#[]⟩, .int .i64 0, .int .i64 0, .int .i64 0, .string ⟨#[]⟩] 31 (0, 0))) := by rw [hW2, hXB]; exact heap_alloc_new w9 _
              have HXw : Hid (wr.heap.size ≤ XB) := by show _ ≤ _; rw [hXB]; exact b9.size
              clear b9 hBb hBx
              go_upto_region 19 with fail
              rw [← hW2, ← hXB]
              clear hW2 hXB
              have hAx : ∀ W, Below w.heap.size w W → Calls Tryd.prog 31 #[va, .string p] W fun e w' => e = .returned (.tuple #[.agg #[.string xp, .bool xg, .string xi, .int .i64 xk, .int .i64 xm, .int .i64 xt, .string xb], .bool true]) ∧ Below W.heap.size W w' := hA
              clear hA
              go_wp2_with fail
              refine (hAx _ (HBr.out.trans (HBb.out.mono HBr.out.size))).mono ?_
              rintro e w8 ⟨rfl, b8⟩
              have HM8 := (b8.block _ (Array.getElem?_eq_some_iff.1 HMb.out).1).trans HMb.out
              have hzf : ∀ j, w8.frozen? ⟨XB, j, none⟩ = false := fun j => frozen_of_row w8 _ j _ _ HM8
              have cz0 : w8.cell? ⟨XB, 0, none⟩ = some (.string ⟨#[]⟩) := cell_of_row w8 XB 0 _ _ _ HM8
              have fz0 := hzf 0
              have cz1 : w8.cell? ⟨XB, 1, none⟩ = some (.bool false) := cell_of_row w8 XB 1 _ _ _ HM8
              have fz1 := hzf 1
              have cz2 : w8.cell? ⟨XB, 2, none⟩ = some (.string ⟨#[]⟩) := cell_of_row w8 XB 2 _ _ _ HM8
              have fz2 := hzf 2
              have cz3 : w8.cell? ⟨XB, 3, none⟩ = some (.int .i64 0) := cell_of_row w8 XB 3 _ _ _ HM8
              have fz3 := hzf 3
              have cz4 : w8.cell? ⟨XB, 4, none⟩ = some (.int .i64 0) := cell_of_row w8 XB 4 _ _ _ HM8
              have fz4 := hzf 4
              have cz5 : w8.cell? ⟨XB, 5, none⟩ = some (.int .i64 0) := cell_of_row w8 XB 5 _ _ _ HM8
              have fz5 := hzf 5
              have cz6 : w8.cell? ⟨XB, 6, none⟩ = some (.string ⟨#[]⟩) := cell_of_row w8 XB 6 _ _ _ HM8
              have fz6 := hzf 6
              obtain ⟨W3, hW3⟩ : ∃ W3, W3 = (((((((w8.setCell ⟨XB, 0, none⟩ (.string xp)).setCell ⟨XB, 1, none⟩ (.bool xg)).setCell ⟨XB, 2, none⟩ (.string xi)).setCell ⟨XB, 3, none⟩ (.int .i64 xk)).setCell ⟨XB, 4, none⟩ (.int .i64 xm)).setCell ⟨XB, 5, none⟩ (.int .i64 xt)).setCell ⟨XB, 6, none⟩ (.string xb)) := ⟨_, rfl⟩
              have hB8 := HBb.out.trans (b8.mono HBb.out.size)
              have HBc : Hid (Below wr.heap.size wr W3) := by rw [hW3]; exact (((((((hB8.setCell (p := ⟨XB, 0, none⟩) HXw.out _).setCell (p := ⟨XB, 1, none⟩) HXw.out _).setCell (p := ⟨XB, 2, none⟩) HXw.out _).setCell (p := ⟨XB, 3, none⟩) HXw.out _).setCell (p := ⟨XB, 4, none⟩) HXw.out _).setCell (p := ⟨XB, 5, none⟩) HXw.out _).setCell (p := ⟨XB, 6, none⟩) HXw.out _)
              have HMc : Hid (W3.heap[XB]? = some (.cells #[.string xp, .bool xg, .string xi, .int .i64 xk, .int .i64 xm, .int .i64 xt, .string xb] 31 (0, 0))) := by
                rw [hW3]
                have h := sets_blk (post := []) (emC ⟨xp, xg, ⟨xi, xk, xm, xt, xb⟩⟩) [] [.string ⟨#[]⟩, .bool false, .string ⟨#[]⟩, .int .i64 0, .int .i64 0, .int .i64 0, .string ⟨#[]⟩] w8 HM8 rfl
                rw [List.append_nil] at h
                exact h
              clear hzf HM8 b8 hB8 hAx HMb
              go_upto_region 20 with fail
              rw [← hW3]
              clear hW3 cz0 fz0 cz1 fz1 cz2 fz2 cz3 fz3 cz4 fz4 cz5 fz5 cz6 fz6
              have keyB := fun j => cell_of_row W3 XB j _ _ _ HMc.out
              have cb0 : W3.cell? ⟨XB, 0, none⟩ = some (.string xp) := keyB 0
              have cb1 : W3.cell? ⟨XB, 1, none⟩ = some (.bool xg) := keyB 1
              have cb2 : W3.cell? ⟨XB, 2, none⟩ = some (.string xi) := keyB 2
              have cb3 : W3.cell? ⟨XB, 3, none⟩ = some (.int .i64 xk) := keyB 3
              have cb4 : W3.cell? ⟨XB, 4, none⟩ = some (.int .i64 xm) := keyB 4
              have cb5 : W3.cell? ⟨XB, 5, none⟩ = some (.int .i64 xt) := keyB 5
              have cb6 : W3.cell? ⟨XB, 6, none⟩ = some (.string xb) := keyB 6
              clear keyB
              obtain ⟨s2, W6, hr6, ho6, hg6⟩ := more_ae w7.heap.size u11 ((m.take k).filterMap (tJR a b)) (⟨xp, xg, ⟨xi, xk, xm, xt, xb⟩⟩ : Em) (W3.alloc (.cells #[.string xp, .bool xg, .string xi, .int .i64 xk, .int .i64 xm, .int .i64 xt, .string xb] 31)) ((own_below HO.out HBc.out).alloc _) W3.heap.size (heap_alloc_new W3 _) (by have h1 := List.length_filterMap_le (tJR a b) (m.take k); rw [List.length_take] at h1; have := HMl.out; omega) (by have h1 := HB.out.size; have h2 := (HBc.out).size; simp; omega)
              have HO6 : Hid (W6.ownsRow w7.heap.size 31 7 s2 ((m.take (k + 1)).filterMap (tJR a b)).length (rowR emC ((m.take (k + 1)).filterMap (tJR a b)))) := by
                rw [told_step HPk.out, show tJR a b p = some (⟨xp, xg, ⟨xi, xk, xm, xt, xb⟩⟩ : Em) from tJR_none HBe.out HAe.out, Option.toList_some]; exact ho6
              have HB6 : Hid (Below w7.heap.size w7 W6) := ((HB.out.trans ((HBc.out).mono HB.out.size)).alloc (Nat.le_trans HB.out.size (HBc.out).size) _).grown hg6 (by have h1 := HB.out.size; have h2 := (HBc.out).size; simp; omega) fun g hg => (HO.out.lt g hg).1
              clear ho6 hg6
              go_wp2_with (at_builtin; refine wpL_append_run rfl (.tmp 62) (.tmp 64) 23 23 rfl rfl _ _ s2 W6 rfl rfl hr6 ?_)
              clear hr6 cb0 cb1 cb2 cb3 cb4 cb5 cb6
              go_roundw
              case measure => simp only [intOf]; omega
              case rel => exact ⟨k + 1, by omega, by go_num, HO6, HB6⟩
        · obtain rfl : M = k := by omega
          have HO2 : Hid (wr.ownsRow w7.heap.size 31 7 u11 (m.filterMap (tJR a b)).length (rowR emC (m.filterMap (tJR a b)))) := by
            have h := HO.out
            rw [List.take_of_length_le (by have := HM.out; omega)] at h
            exact h
          have HBw : Hid (Below w.heap.size w wr) := HB7.out.trans (HB.out.mono HB7.out.size)
          have HLo : Hid ((m.filterMap (tJR a b)).length ≤ 1000) := Nat.le_trans (List.length_filterMap_le _ _) HMl.out
          clear HO HB
          have HAp : Hid (Dl.joinL (edl a) (edl b) = edl (m.filterMap (tJR a b))) := by
            show _ = _
            unfold Dl.joinL
            rw [← HDm.out]
            exact told_dl (u := Em.ed) (joinE_R a b)
          have HR3 : Hid (RP = if 200 < (m.filterMap (tJR a b)).length then ([], 2) else (edl (m.filterMap (tJR a b)), 0)) := by
            show _ = _
            rw [HP.out, if_neg (fun q => q HEA0.out), if_neg (fun q => q HEB0.out), HAp.out, edl_length]
          have HOf : Hid (wr.ownsRow w.heap.size 31 7 u11 (m.filterMap (tJR a b)).length (rowR emC (m.filterMap (tJR a b)))) := own_lower HO2.out HB7.out.size
          obtain ⟨av, ac, rfl⟩ := own_form HOf.out
          obtain ⟨K, hK⟩ : ∃ K, K = (m.filterMap (tJR a b)).length := ⟨_, rfl⟩
          have HK : Hid (K = (m.filterMap (tJR a b)).length) := hK
          rw [← hK] at HR3 HLo ⊢
          clear HP hK HO2
          by_cases c3 : 200 < K
          · have hgt : ((K : Int) > 200) := by omega
            have HRe : Hid (RP = ([], 2)) := by show _ = _; rw [HR3.out, if_pos c3]
            clear HR3 c3
            go_wp2_with fail
            go_ret2
            exact ⟨_, [], by rw [HRe.out]; rfl, World.ownsRow_nil _ _ _ _, by rw [HRe.out]; rfl, HBw.out⟩
          have hgt : ¬ ((K : Int) > 200) := by omega
          have HRe : Hid (RP = (edl (m.filterMap (tJR a b)), 0)) := by show _ = _; rw [HR3.out, if_neg c3]
          have HOf2 : Hid (wr.ownsRow w.heap.size 31 7 (.slice av K ac) (m.filterMap (tJR a b)).length (rowR emC (m.filterMap (tJR a b)))) := by
            have h := HOf.out
            rw [← HK.out] at h ⊢
            exact h
          clear HR3 c3
          go_wp2_with fail
          go_ret2
          first
            | exact ⟨_, by rw [HRe.out]; rfl, _, HOf2.out, by rw [HRe.out], HBw.out⟩
            | exact ⟨_, _, by rw [HRe.out]; rfl, HOf2.out, by rw [HRe.out], HBw.out⟩

end Go.Proofs.YthpcbbkpjggjbaaDoor

namespace Go.Proofs.YthpcbbkpjggjbaaDoor
open Go.RowKit
set_option maxRecDepth 4000

set_option maxHeartbeats 8000000 in
theorem deltaApplies_walk (v0 : Value) (l0 : List Im) (v1 : Value) (l1 : List Em) (v2 : Value) (l2 : List Em) (z0 : l0.length ≤ 140737488351232) (f0 : ∀ x ∈ l0, x.Ok) (y0 : ∀ x ∈ l0, x.path.size ≤ 1048576 ∧ x.bytes.size ≤ 1048576) (z1 : l1.length ≤ 140737488351232) (f1 : ∀ x ∈ l1, x.Ok) (y1 : ∀ x ∈ l1, x.path.size ≤ 1048576 ∧ x.item.path.size ≤ 1048576 ∧ x.item.bytes.size ≤ 1048576) (z2 : l2.length ≤ 140737488351232) (f2 : ∀ x ∈ l2, x.Ok) (y2 : ∀ x ∈ l2, x.path.size ≤ 1048576 ∧ x.item.path.size ≤ 1048576 ∧ x.item.bytes.size ≤ 1048576) (w : World) (t0 : Ims w v0 l0) (t1 : Eds w v1 l1) (t2 : Eds w v2 l2) (hT : Tabs w) :
    Calls Tryd.prog 4 #[v0, v1, v2] w fun e w' => e = .returned (.bool true) ∧ Below w.heap.size w w' := by
  have X0 : Hid (Ims w v0 l0) := t0
  have O0 : Hid (∀ x ∈ l0, x.Ok) := f0
  have Y0 : Hid (∀ x ∈ l0, x.path.size ≤ 1048576 ∧ x.bytes.size ≤ 1048576) := y0
  have X1 : Hid (Eds w v1 l1) := t1
  have O1 : Hid (∀ x ∈ l1, x.Ok) := f1
  have Y1 : Hid (∀ x ∈ l1, x.path.size ≤ 1048576 ∧ x.item.path.size ≤ 1048576 ∧ x.item.bytes.size ≤ 1048576) := y1
  have X2 : Hid (Eds w v2 l2) := t2
  have O2 : Hid (∀ x ∈ l2, x.Ok) := f2
  have Y2 : Hid (∀ x ∈ l2, x.path.size ≤ 1048576 ∧ x.item.path.size ≤ 1048576 ∧ x.item.bytes.size ≤ 1048576) := y2
  have HT : Hid (Tabs w) := hT
  clear t0 f0 y0 t1 f1 y1 t2 f2 y2 hT
  obtain ⟨D, E, hD⟩ : ∃ D E, Dl.apply (its l0) (edl l1) = (D, E) := ⟨_, _, rfl⟩
  have HD : Hid (Dl.apply (its l0) (edl l1) = (D, E)) := hD
  obtain ⟨J, F, hJ⟩ : ∃ D E, Dl.join (edl l1) (edl l2) = (D, E) := ⟨_, _, rfl⟩
  have HJ : Hid (Dl.join (edl l1) (edl l2) = (J, F)) := hJ
  clear hD hJ
  have h1 := dapply_any v0 v1 l0 l1 w X0.out X1.out z0 z1 O0.out O1.out HT.out
  rw [HD.out] at h1
  dsimp only at h1
  go_enter Tryd.func4, Tryd.ntmps4
  go_wp2_with fail
  refine h1.mono ?_
  rintro e w1 ⟨s1, m1, rfl, hr1, hm1, _, b1⟩
  obtain ⟨sa, sc, rfl⟩ := own_form hr1
  have HB1 : Hid (Below w.heap.size w w1) := b1
  have HR1 : Hid (Ims w1 (.slice sa m1.length sc) m1 ∧ its m1 = D) := ⟨Rx.of_own imC_length hr1, hm1⟩
  have hg1 : m1.length ≤ 100 := by rw [← its_length, hm1]; exact apply_few HD.out
  have h2 := rapply_any v0 v1 l0 l1 w1 (X0.out.below b1) (X1.out.below b1) z0 z1 Y0.out Y1.out
  rw [HD.out] at h2
  dsimp only at h2
  clear h1 hr1 hm1 b1
  go_wp2_with fail
  refine h2.mono ?_
  rintro e w2 ⟨s2, m2, rfl, hr2, hm2, b2⟩
  have HB2 : Hid (Below w.heap.size w w2) := HB1.out.trans (b2.mono HB1.out.size)
  obtain rfl : m2 = m1 := its_inj (hm2.trans HR1.out.2.symm)
  obtain ⟨ta, tc, rfl⟩ := own_form hr2
  have HR2 : Hid (Ims w2 (.slice sa m2.length sc) m2 ∧ Ims w2 (.slice ta m2.length tc) m2) := ⟨HR1.out.1.below b2, Rx.of_own imC_length hr2⟩
  have h3 := djoin_say (X1.out.below HB2.out) (X2.out.below HB2.out) z1 z2 O1.out O2.out (HT.out.below HB2.out) HJ.out
  clear h2 hr2 hm2 b2 HR1
  generalize hn2 : m2.length = n2 at *
  go_wp2_with fail
  refine h3.mono ?_
  rintro e w3 ⟨ua, uc, m3, rfl, hr3, hm3, _, b3⟩
  have HB3 : Hid (Below w.heap.size w w3) := HB2.out.trans (b3.mono HB2.out.size)
  have HR3 : Hid (Eds w3 (.slice ua m3.length uc) m3 ∧ edl m3 = J) := ⟨hr3, hm3⟩
  have hg3 : m3.length ≤ 200 := by rw [← edl_length, hm3]; exact join_few HJ.out
  have HR23 : Hid (Ims w3 (.slice sa n2 sc) m2 ∧ Ims w3 (.slice ta n2 tc) m2) := ⟨HR2.out.1.below b3, HR2.out.2.below b3⟩
  have h4 := rjoinE_any v1 v2 l1 l2 w3 (X1.out.below HB3.out) (X2.out.below HB3.out) z1 z2 Y1.out Y2.out
  rw [HJ.out] at h4
  dsimp only at h4
  clear h3 hr3 hm3 b3 HR2
  go_wp2_with fail
  refine h4.mono ?_
  rintro e w4 ⟨s4, m4, rfl, hr4, hm4, b4⟩
  have HB4 : Hid (Below w.heap.size w w4) := HB3.out.trans (b4.mono HB3.out.size)
  obtain rfl : m4 = m3 := edl_inj (hm4.trans HR3.out.2.symm)
  obtain ⟨va, vc, rfl⟩ := own_form hr4
  have HX : Hid (∀ W, Below w4.heap.size w4 W → Ims W (.slice sa n2 sc) m2 ∧ Ims W (.slice ta n2 tc) m2 ∧ Eds W (.slice ua m4.length uc) m4 ∧ Eds W (.slice va m4.length vc) m4 ∧ Below w.heap.size w W) := fun W hW =>
    ⟨HR23.out.1.below (b4.trans (hW.mono b4.size)), HR23.out.2.below (b4.trans (hW.mono b4.size)), HR3.out.1.below (b4.trans (hW.mono b4.size)), (Rx.of_own emC_length hr4).below hW, HB4.out.trans (hW.mono HB4.out.size)⟩
  have hk1 := fun (W : World) (hW : Below w.heap.size w W) => dcheck_any v1 l1 W (X1.out.below hW) z1 O1.out (HT.out.below hW)
  have hk2 := fun (W : World) (hW : Below w.heap.size w W) => redits_any v1 l1 W (X1.out.below hW) z1 fun x hx => (Y1.out x hx).1
  obtain ⟨CK, hCK⟩ : ∃ CK, CK = Dl.check (edl l1) := ⟨_, rfl⟩
  rw [← hCK] at hk1 hk2
  have hy1 := fun (W : World) (h1 : Ims W (.slice sa n2 sc) m2) (h2 : Ims W (.slice ta n2 tc) m2) => equal_items _ _ m2 m2 W h1 h2 (by omega)
  have hy2 := fun (W : World) (h1 : Eds W (.slice ua m4.length uc) m4) (h2 : Eds W (.slice va m4.length vc) m4) => equal_eds _ _ m4 m4 W h1 h2 (by omega)
  clear h4 hr4 hm4 b4 HR3 HR23 hCK
  generalize hn4 : m4.length = n4 at *
  go_wp2_with (first
    | (refine (hk1 _ HB4.out).mono ?_; rintro e w5 ⟨rfl, b5⟩; have HB5 : Hid (Below w4.heap.size w4 w5) := b5; clear hk1 b5)
    | (refine (hk2 _ (HX.out _ HB5.out).2.2.2.2).mono ?_; rintro e w6 ⟨rfl, b6⟩; have HB6 : Hid (Below w4.heap.size w4 w6) := HB5.out.trans (b6.mono HB5.out.size); clear hk2 b6)
    | (refine (hy1 _ (HX.out _ HB6.out).1 (HX.out _ HB6.out).2.1).mono ?_; rintro e w7 ⟨q7, rfl, hq7, b7⟩; obtain rfl : q7 = true := hq7.2 (by first | exact trivial | rfl); have HB7 : Hid (Below w4.heap.size w4 w7) := HB6.out.trans (b7.mono HB6.out.size); clear hq7 b7 hy1)
    | (refine (hy2 _ (HX.out _ HB7.out).2.2.1 (HX.out _ HB7.out).2.2.2.1).mono ?_; rintro e w8 ⟨q8, rfl, hq8, b8⟩; obtain rfl : q8 = true := hq8.2 (by first | exact trivial | rfl); have HB8 : Hid (Below w4.heap.size w4 w8) := HB7.out.trans (b8.mono HB7.out.size); clear hq8 b8 hy2))
  go_ret
  exact ⟨rfl, (HX.out _ HB8.out).2.2.2.2⟩

end Go.Proofs.YthpcbbkpjggjbaaDoor

namespace Go.Proofs.YthpcbbkpjggjbaaDoor
open Go.RowKit
set_option maxRecDepth 4000

set_option maxHeartbeats 16000000 in
theorem rdiff_any (va vb : Value) (a : List Im) (b : List Im) (w : World) (ha : Ims w va a) (hb : Ims w vb b) (_la : a.length ≤ 140737488351232) (_lb : b.length ≤ 140737488351232) (oa : ∀ x ∈ a, x.path.size ≤ 1048576 ∧ x.bytes.size ≤ 1048576) (ob : ∀ x ∈ b, x.path.size ≤ 1048576 ∧ x.bytes.size ≤ 1048576) :
    Calls Tryd.prog 9 #[va, vb] w fun e w' => ∃ v l, e = .returned (.tuple #[v, .int .i64 (Dl.diff (its a) (its b)).2]) ∧ w'.ownsRow w.heap.size 31 7 v l.length (rowR emC l) ∧ edl l = (Dl.diff (its a) (its b)).1 ∧ Below w.heap.size w w' := by
  have hca := rworld_any va a w ha oa
  have HCb : Hid (∀ W, Below w.heap.size w W → Calls Tryd.prog 24 #[vb] W fun e w' => e = .returned (.int .i64 (Wk.world (its b))) ∧ Below W.heap.size W w') := fun W hW => rworld_any vb b W (hb.below hW) ob
  have HP : Hid (Dl.diff (its a) (its b) = if Wk.world (its a) ≠ 0 then ([], Wk.world (its a)) else if Wk.world (its b) ≠ 0 then ([], Wk.world (its b)) else ((Dl.paths ((its a).map Wk.It.path ++ (its b).map Wk.It.path)).filterMap (Dl.diffE (its a) (its b)), 0)) := rfl
  have HXa : Hid (Ims w va a) := ha
  have HXb : Hid (Ims w vb b) := hb
  have HOa : Hid (∀ x ∈ a, x.path.size ≤ 4194304) := fun x hx => by have := (oa x hx).1; omega
  have HOb : Hid (∀ x ∈ b, x.path.size ≤ 4194304) := fun x hx => by have := (ob x hx).1; omega
  have HSa : Hid (∀ x ∈ a, x.path.size ≤ 1048576 ∧ x.bytes.size ≤ 1048576) := oa
  have HSb : Hid (∀ x ∈ b, x.path.size ≤ 1048576 ∧ x.bytes.size ≤ 1048576) := ob
  obtain ⟨RP, hRP⟩ : ∃ RP, RP = Dl.diff (its a) (its b) := ⟨_, rfl⟩
  rw [← hRP] at HP ⊢
  obtain ⟨EA, hEA⟩ : ∃ EA, EA = Wk.world (its a) := ⟨_, rfl⟩
  obtain ⟨EB, hEB⟩ : ∃ EB, EB = Wk.world (its b) := ⟨_, rfl⟩
  rw [← hEA] at hca
  rw [← hEB] at HCb
  have HEA : Hid (EA = Wk.world (its a)) := hEA
  have HEB : Hid (EB = Wk.world (its b)) := hEB
  clear ha hb _la _lb oa ob hRP hEA hEB
  go_enter Tryd.func9, Tryd.ntmps9
  go_wp2_with fail
  refine hca.mono ?_
  rintro e w1 ⟨rfl, b1⟩
  have HB1 : Hid (Below w.heap.size w w1) := b1
  clear hca b1
  by_cases c1 : EA = 0
  case neg =>
    have hne : (EA != 0) = true := by rw [bne_iff_ne]; exact c1
    have HRe : Hid (RP = ([], EA)) := by show _ = _; rw [HP.out, ← HEA.out, if_pos c1]
    clear HP HCb
    go_wp2_with fail
    go_ret2
    exact ⟨_, [], by rw [HRe.out]; rfl, World.ownsRow_nil _ _ _ _, by rw [HRe.out]; rfl, HB1.out⟩
  have hne : (EA != 0) = false := by rw [c1]; rfl
  have HEA0 : Hid (Wk.world (its a) = 0) := by show _ = _; rw [← HEA.out]; exact c1
  go_wp2_with fail
  refine (HCb.out _ HB1.out).mono ?_
  rintro e w2 ⟨rfl, b2⟩
  have HB2 : Hid (Below w.heap.size w w2) := HB1.out.trans (b2.mono HB1.out.size)
  clear HCb b2 hne c1
  by_cases c2 : EB = 0
  case neg =>
    have hne : (EB != 0) = true := by rw [bne_iff_ne]; exact c2
    have HRe : Hid (RP = ([], EB)) := by show _ = _; rw [HP.out, if_neg (fun q => q HEA0.out), ← HEB.out, if_pos c2]
    clear HP
    go_wp2_with fail
    go_ret2
    exact ⟨_, [], by rw [HRe.out]; rfl, World.ownsRow_nil _ _ _ _, by rw [HRe.out]; rfl, HB2.out⟩
  have hne : (EB != 0) = false := by rw [c2]; rfl
  have HEB0 : Hid (Wk.world (its b) = 0) := by show _ = _; rw [← HEB.out]; exact c2
  have hlen : a.length + b.length ≤ 1000 := by
    have h1 := (Dl.wld HEA0.out).1; have h2 := (Dl.wld HEB0.out).1; rw [its_length] at h1 h2; omega
  have HLa : Hid (a.length + b.length ≤ 1000) := hlen
  have hcl := clone_cim va a w2 (HXa.out.below HB2.out) (by have := hlen; omega)
  have hlen2 := hlen
  go_wp2_with fail
  clear c2 hne
  refine hcl.mono ?_
  rintro e w3 ⟨v3, rfl, h3, b3⟩
  have HB3 : Hid (Below w.heap.size w w3) := HB2.out.trans (b3.mono HB2.out.size)
  obtain ⟨v5, w5, hr5, ho5, hg5⟩ := cat_row (SL := 22) Tryd.underlying22 info_ai rfl (by decide) imC_length imC_one w2.heap.size v3 vb a b w3 h3 (HXb.out.below HB3.out) (by omega) (by omega) b3.size
  have HB5 : Hid (Below w.heap.size w w5) := HB2.out.trans ((b3.grown hg5 b3.size fun g hg => (h3.lt g hg).1).mono HB2.out.size)
  obtain ⟨X, hX⟩ : ∃ X, X = a ++ b := ⟨_, rfl⟩
  have HXe : Hid (X = a ++ b) := hX
  rw [← hX] at ho5
  have HX5 : Hid (Ims w5 v5 X) := Rx.of_own imC_length ho5
  obtain ⟨xa, xc, rfl⟩ := own_form ho5
  obtain ⟨N, hN⟩ : ∃ N, N = X.length := ⟨_, rfl⟩
  have HN : Hid (N = X.length) := hN
  have HLn : Hid (X.length ≤ 1000) := by show _ ≤ _; rw [hX, List.length_append]; omega
  rw [← hN] at HX5 hr5
  have hN3 : N ≤ 1000 := by have := HLn.out; omega
  clear hcl h3 b3 hg5 ho5 hX hN hlen hlen2
  go_wp2_with (at_builtin; refine wpL_append_run rfl (.tmp 29) (.tmp 30) 22 22 rfl rfl _ _ (.slice xa N xc) w5 rfl rfl hr5 ?_)
  clear hr5
  go_loopw [8, 33] (fun s i wr => ∃ k : Nat, k ≤ N ∧ i = .int .i64 k ∧ Hid (wr.ownsRow w5.heap.size 9 1 s (([] : List ByteArray) ++ (X.take k).map Im.path).length ((([] : List ByteArray) ++ (X.take k).map Im.path).map Tv)) ∧ Hid (Below w5.heap.size w5 wr)) (fun _ i _ => N - (intOf i).toNat)
  case atStart => exact ⟨0, by omega, rfl, by show World.ownsRow _ _ _ _ _ _ _; simpa using World.ownsRow_nil w5 w5.heap.size 9 1, Below.refl _ _⟩
  case round =>
    obtain ⟨k, hk, rfl, HO, HB⟩ := hrel
    by_cases hlt : k < N
    · obtain ⟨x, hx⟩ : ∃ x, X[k]? = some x := ⟨_, List.getElem?_eq_getElem (by have := HN.out; omega)⟩
      obtain ⟨bk, o, rfl, hbk, c0, c1, c2, c3, c4⟩ := (HX5.out.below HB.out).item k x hx
      have HDn : Hid ((([] : List ByteArray) ++ (X.take (k + 1)).map Im.path) = (([] : List ByteArray) ++ (X.take k).map Im.path) ++ [x.path]) := by show _ = _; rw [List.take_add_one, hx]; simp
      obtain ⟨xp, xk, xm, xt, xb⟩ := x
      dsimp only at c0 c1 c2 c3 c4 HDn
      obtain ⟨s2, W6, hr6, ho6, hg6⟩ := more_tx w5.heap.size u8 (([] : List ByteArray) ++ (X.take k).map Im.path) xp ((wr.alloc (.cells #[.string xp, .int .i64 xk, .int .i64 xm, .int .i64 xt, .string xb] 29)).alloc (.cells #[.string xp] 9)) ((HO.out.alloc _).alloc _) (wr.heap.size + 1) (by rw [show wr.heap.size + 1 = (wr.alloc (.cells #[.string xp, .int .i64 xk, .int .i64 xm, .int .i64 xt, .string xb] 29)).heap.size from by simp]; exact heap_alloc_new _ _) (by have := HLn.out; have := HN.out; have : ([] : List ByteArray).length = 0 := rfl; simp only [List.length_append, List.length_map, List.length_take]; omega) (by have := HB.out.size; simp; omega)
      have HO6 : Hid (W6.ownsRow w5.heap.size 9 1 s2 (([] : List ByteArray) ++ (X.take (k + 1)).map Im.path).length ((([] : List ByteArray) ++ (X.take (k + 1)).map Im.path).map Tv)) := by
        rw [HDn.out]; exact ho6
      have HB6 : Hid (Below w5.heap.size w5 W6) := (((HB.out.alloc HB.out.size _).alloc (by have := HB.out.size; simp; omega) _)).grown hg6 (by have := HB.out.size; simp; omega) fun g hg => (HO.out.lt g hg).1
      clear ho6 hg6 hx HDn
      go_wp2_with (at_builtin; refine wpL_append_run rfl (.tmp 37) (.tmp 40) 50 50 rfl rfl _ _ s2 W6 rfl rfl hr6 ?_)
      clear hr6 c0 c1 c2 c3 c4
      go_roundw
      case measure => simp only [intOf]; omega
      case rel => exact ⟨k + 1, by omega, by go_num, HO6, HB6⟩
    · obtain rfl : N = k := by omega
      have HO1 : Hid (wr.ownsRow w5.heap.size 9 1 u8 (X.map Im.path).length ((X.map Im.path).map Tv)) := by
        have h := HO.out
        rw [List.take_of_length_le (by have := HN.out; omega), List.nil_append] at h
        exact h
      have hps : ∀ s ∈ (X.map Im.path), s.size ≤ 4194304 := by
        intro s hs
        obtain ⟨x, hx, rfl⟩ := List.mem_map.1 hs
        rw [HXe.out] at hx
        rcases List.mem_append.1 hx with q | q
        · exact HOa.out x q
        · exact HOb.out x q
      have hap := rpaths_any u8 (X.map Im.path) wr (Tx.of_own HO1.out) (by have := HLn.out; have := HN.out; rw [List.length_map]; omega) hps
      have HBw6 : Hid (Below w.heap.size w wr) := HB5.out.trans (HB.out.mono HB5.out.size)
      have HBx6 := HB
      clear HO HB hps
      go_wp2_with fail
      refine hap.mono ?_
      rintro e w7 ⟨v7, m, rfl, h7, hm, hmi, b7⟩
      have HB7 : Hid (Below w.heap.size w w7) := HBw6.out.trans (b7.mono HBw6.out.size)
      have HMi : Hid (∀ q ∈ m, q ∈ (X.map Im.path)) := hmi
      have HDm : Hid (dl m = Dl.paths ((its a).map Wk.It.path ++ (its b).map Wk.It.path)) := by
        show _ = _
        rw [hm]
        congr 1
        rw [HXe.out]; unfold dl its; simp [Im.it, Function.comp_def]
      have HMl : Hid (m.length ≤ 1000) := by
        have h1 := congrArg List.length hm
        have h2 := Dl.paths_len (dl (X.map Im.path))
        rw [dl_length] at h1 h2
        have := HLn.out
        have := HN.out
        show _ ≤ _
        rw [List.length_map] at h2; omega
      have hTm := Tx.of_own h7
      obtain ⟨ma, mc, rfl⟩ := own_form h7
      obtain ⟨M, hM⟩ : ∃ M, M = m.length := ⟨_, rfl⟩
      have HM : Hid (M = m.length) := hM
      rw [← hM] at hTm ⊢
      have HTm : Hid (Tx w7 (.slice ma M mc) m) := hTm
      have hM3 : M ≤ 1000 := by have := HMl.out; omega
      clear hap b7 hm hmi hM hTm h7 HBw6 HBx6 HO1
      go_wp2_with fail
      go_loopw [11, 46] (fun s i wr => ∃ k : Nat, k ≤ M ∧ i = .int .i64 k ∧ Hid (wr.ownsRow w7.heap.size 31 7 s ((m.take k).filterMap (tDR a b)).length (rowR emC ((m.take k).filterMap (tDR a b)))) ∧ Hid (Below w7.heap.size w7 wr)) (fun _ i _ => M - (intOf i).toNat)
      case atStart => exact ⟨0, by omega, rfl, World.ownsRow_nil _ _ _ _, Below.refl _ _⟩
      case round =>
        obtain ⟨k, hk, rfl, HO, HB⟩ := hrel
        by_cases hlt : k < M
        · have hkm : k < m.length := by have := HM.out; omega
          obtain ⟨bk, o, rfl, hbk, x0⟩ := (HTm.out.below HB.out).get k hkm
          obtain ⟨p, hp⟩ : ∃ p, m[k]? = some p := ⟨_, List.getElem?_eq_getElem hkm⟩
          rw [List.getD_eq_getElem?_getD, hp, Option.getD_some] at x0
          have HPk : Hid (m[k]? = some p) := hp
          have HBr : Hid (Below w.heap.size w wr) := HB7.out.trans (HB.out.mono HB7.out.size)
          have hA := fun (W : World) (hW : Below w.heap.size w W) => atI_any va a p W (HXa.out.below hW) (by have := HLa.out; omega)
          have hB := fun (W : World) (hW : Below w.heap.size w W) => atI_any vb b p W (HXb.out.below hW) (by have := HLa.out; omega)
          obtain ⟨A, hAe⟩ : ∃ A, A = atI a p := ⟨_, rfl⟩
          obtain ⟨B, hBe⟩ : ∃ B, B = atI b p := ⟨_, rfl⟩
          rw [← hAe] at hA
          rw [← hBe] at hB
          have HAe : Hid (A = atI a p) := hAe
          have HBe : Hid (B = atI b p) := hBe
          clear hAe hBe hp hkm
          cases B with
          | none =>
            cases A with
            | none =>
              have hAx : ∀ W, Below w.heap.size w W → Calls Tryd.prog 27 #[va, .string p] W fun e w' => e = .returned (.tuple #[.agg #[.string ⟨#[]⟩, .int .i64 0, .int .i64 0, .int .i64 0, .string ⟨#[]⟩], .bool false]) ∧ Below W.heap.size W w' := hA
              have hBx : ∀ W, Below w.heap.size w W → Calls Tryd.prog 27 #[vb, .string p] W fun e w' => e = .returned (.tuple #[.agg #[.string ⟨#[]⟩, .int .i64 0, .int .i64 0, .int .i64 0, .string ⟨#[]⟩], .bool false]) ∧ Below W.heap.size W w' := hB
              clear hA hB
              go_wp2_with fail
              refine (hAx _ HBr.out).mono ?_
              rintro e w8 ⟨rfl, b8⟩
              obtain ⟨W1, hW1⟩ : ∃ W1, W1 = w8.alloc (.cells #[.string ⟨#[]⟩, .int .i64 0, .int .i64 0, .int .i64 0, .string ⟨#[]⟩] 29) := ⟨_, rfl⟩
              obtain ⟨XA, hXA⟩ : ∃ XA, XA = w8.heap.size := ⟨_, rfl⟩
              have hBa : Below wr.heap.size wr W1 := by rw [hW1]; exact b8.alloc b8.size _
              have HXl : Hid (wr.heap.size ≤ XA) := by show _ ≤ _; rw [hXA]; exact b8.size
              have HBa : Hid (Below wr.heap.size wr W1) := hBa
              have HMa : Hid (W1.heap[XA]? = some (.cells #[.string ⟨#[]⟩, .int .i64 0, .int .i64 0, .int .i64 0, .string ⟨#[]⟩] 29 (0, 0))) := by rw [hW1, hXA]; exact heap_alloc_new w8 _
              clear b8 hBa hAx
              go_wp2_with fail
              rw [← hW1, ← hXA]
              clear hW1 hXA
              refine (hBx _ (HBr.out.trans (HBa.out.mono HBr.out.size))).mono ?_
              rintro e w9 ⟨rfl, b9⟩
              obtain ⟨W2, hW2⟩ : ∃ W2, W2 = w9.alloc (.cells #[.string ⟨#[]⟩, .int .i64 0, .int .i64 0, .int .i64 0, .string ⟨#[]⟩] 29) := ⟨_, rfl⟩
              obtain ⟨XB, hXB⟩ : ∃ XB, XB = w9.heap.size := ⟨_, rfl⟩
              have hBb : Below W1.heap.size W1 W2 := by rw [hW2]; exact b9.alloc b9.size _
              have HBb : Hid (Below wr.heap.size wr W2) := HBa.out.trans (hBb.mono HBa.out.size)
              have HMa2 : Hid (W2.heap[XA]? = some (.cells #[.string ⟨#[]⟩, .int .i64 0, .int .i64 0, .int .i64 0, .string ⟨#[]⟩] 29 (0, 0))) := (hBb.block _ (Array.getElem?_eq_some_iff.1 HMa.out).1).trans HMa.out
              have HMb : Hid (W2.heap[XB]? = some (.cells #[.string ⟨#[]⟩, .int .i64 0, .int .i64 0, .int .i64 0, .string ⟨#[]⟩] 29 (0, 0))) := by rw [hW2, hXB]; exact heap_alloc_new w9 _
              have HXX : Hid (XA ≠ XB) := by
                have h1 := (Array.getElem?_eq_some_iff.1 HMa.out).1
                have h2 := b9.size
                show _ ≠ _
                omega
              clear b9 hBb hBx HMa HBa
              go_upto_region 19 with fail
              rw [← hW2, ← hXB]
              clear hW2 hXB
              have keyA := fun j => cell_of_row W2 XA j _ _ _ HMa2.out
              have keyB := fun j => cell_of_row W2 XB j _ _ _ HMb.out
              have ca0 : W2.cell? ⟨XA, 0, none⟩ = some (.string ⟨#[]⟩) := keyA 0
              have ca1 : W2.cell? ⟨XA, 1, none⟩ = some (.int .i64 0) := keyA 1
              have ca2 : W2.cell? ⟨XA, 2, none⟩ = some (.int .i64 0) := keyA 2
              have ca3 : W2.cell? ⟨XA, 3, none⟩ = some (.int .i64 0) := keyA 3
              have ca4 : W2.cell? ⟨XA, 4, none⟩ = some (.string ⟨#[]⟩) := keyA 4
              have cb0 : W2.cell? ⟨XB, 0, none⟩ = some (.string ⟨#[]⟩) := keyB 0
              have cb1 : W2.cell? ⟨XB, 1, none⟩ = some (.int .i64 0) := keyB 1
              have cb2 : W2.cell? ⟨XB, 2, none⟩ = some (.int .i64 0) := keyB 2
              have cb3 : W2.cell? ⟨XB, 3, none⟩ = some (.int .i64 0) := keyB 3
              have cb4 : W2.cell? ⟨XB, 4, none⟩ = some (.string ⟨#[]⟩) := keyB 4
              clear keyA keyB
              obtain ⟨s2, W6, hr6, ho6, hg6⟩ := more_ae w7.heap.size u11 ((m.take k).filterMap (tDR a b)) (⟨p, true, im0⟩ : Em) (W2.alloc (.cells #[.string p, .bool true, .string ⟨#[]⟩, .int .i64 0, .int .i64 0, .int .i64 0, .string ⟨#[]⟩] 31)) ((own_below HO.out HBb.out).alloc _) W2.heap.size (heap_alloc_new W2 _) (by have h1 := List.length_filterMap_le (tDR a b) (m.take k); rw [List.length_take] at h1; have := HMl.out; omega) (by have h1 := HB.out.size; have h2 := (HBb.out).size; simp; omega)
              have HO6 : Hid (W6.ownsRow w7.heap.size 31 7 s2 ((m.take (k + 1)).filterMap (tDR a b)).length (rowR emC ((m.take (k + 1)).filterMap (tDR a b)))) := by
                rw [told_step HPk.out, show tDR a b p = some (⟨p, true, im0⟩ : Em) from tDR_none HBe.out, Option.toList_some]; exact ho6
              have HB6 : Hid (Below w7.heap.size w7 W6) := ((HB.out.trans ((HBb.out).mono HB.out.size)).alloc (Nat.le_trans HB.out.size (HBb.out).size) _).grown hg6 (by have h1 := HB.out.size; have h2 := (HBb.out).size; simp; omega) fun g hg => (HO.out.lt g hg).1
              clear ho6 hg6
              go_wp2_with (at_builtin; refine wpL_append_run rfl (.tmp 64) (.tmp 67) 23 23 rfl rfl _ _ s2 W6 rfl rfl hr6 ?_)
              clear hr6 ca0 ca1 ca2 ca3 ca4 cb0 cb1 cb2 cb3 cb4
              go_roundw
              case measure => simp only [intOf]; omega
              case rel => exact ⟨k + 1, by omega, by go_num, HO6, HB6⟩
            | some x =>
              obtain ⟨xp, xk, xm, xt, xb⟩ := x
              have hAx : ∀ W, Below w.heap.size w W → Calls Tryd.prog 27 #[va, .string p] W fun e w' => e = .returned (.tuple #[.agg #[.string xp, .int .i64 xk, .int .i64 xm, .int .i64 xt, .string xb], .bool true]) ∧ Below W.heap.size W w' := hA
              have hBx : ∀ W, Below w.heap.size w W → Calls Tryd.prog 27 #[vb, .string p] W fun e w' => e = .returned (.tuple #[.agg #[.string ⟨#[]⟩, .int .i64 0, .int .i64 0, .int .i64 0, .string ⟨#[]⟩], .bool false]) ∧ Below W.heap.size W w' := hB
              clear hA hB
              go_wp2_with fail
              refine (hAx _ HBr.out).mono ?_
              rintro e w8 ⟨rfl, b8⟩
              obtain ⟨W1, hW1⟩ : ∃ W1, W1 = w8.alloc (.cells #[.string xp, .int .i64 xk, .int .i64 xm, .int .i64 xt, .string xb] 29) := ⟨_, rfl⟩
              obtain ⟨XA, hXA⟩ : ∃ XA, XA = w8.heap.size := ⟨_, rfl⟩
              have hBa : Below wr.heap.size wr W1 := by rw [hW1]; exact b8.alloc b8.size _
              have HXl : Hid (wr.heap.size ≤ XA) := by show _ ≤ _; rw [hXA]; exact b8.size
              have HBa : Hid (Below wr.heap.size wr W1) := hBa
              have HMa : Hid (W1.heap[XA]? = some (.cells #[.string xp, .int .i64 xk, .int .i64 xm, .int .i64 xt, .string xb] 29 (0, 0))) := by rw [hW1, hXA]; exact heap_alloc_new w8 _
              clear b8 hBa hAx
              go_wp2_with fail
              rw [← hW1, ← hXA]
              clear hW1 hXA
              refine (hBx _ (HBr.out.trans (HBa.out.mono HBr.out.size))).mono ?_
              rintro e w9 ⟨rfl, b9⟩
              obtain ⟨W2, hW2⟩ : ∃ W2, W2 = w9.alloc (.cells #[.string ⟨#[]⟩, .int .i64 0, .int .i64 0, .int .i64 0, .string ⟨#[]⟩] 29) := ⟨_, rfl⟩
              obtain ⟨XB, hXB⟩ : ∃ XB, XB = w9.heap.size := ⟨_, rfl⟩
              have hBb : Below W1.heap.size W1 W2 := by rw [hW2]; exact b9.alloc b9.size _
              have HBb : Hid (Below wr.heap.size wr W2) := HBa.out.trans (hBb.mono HBa.out.size)
              have HMa2 : Hid (W2.heap[XA]? = some (.cells #[.string xp, .int .i64 xk, .int .i64 xm, .int .i64 xt, .string xb] 29 (0, 0))) := (hBb.block _ (Array.getElem?_eq_some_iff.1 HMa.out).1).trans HMa.out
              have HMb : Hid (W2.heap[XB]? = some (.cells #[.string ⟨#[]⟩, .int .i64 0, .int .i64 0, .int .i64 0, .string ⟨#[]⟩] 29 (0, 0))) := by rw [hW2, hXB]; exact heap_alloc_new w9 _
              have HXX : Hid (XA ≠ XB) := by
                have h1 := (Array.getElem?_eq_some_iff.1 HMa.out).1
                have h2 := b9.size
                show _ ≠ _
                omega
              clear b9 hBb hBx HMa HBa
              go_upto_region 19 with fail
              rw [← hW2, ← hXB]
              clear hW2 hXB
              have keyA := fun j => cell_of_row W2 XA j _ _ _ HMa2.out
              have keyB := fun j => cell_of_row W2 XB j _ _ _ HMb.out
              have ca0 : W2.cell? ⟨XA, 0, none⟩ = some (.string xp) := keyA 0
              have ca1 : W2.cell? ⟨XA, 1, none⟩ = some (.int .i64 xk) := keyA 1
              have ca2 : W2.cell? ⟨XA, 2, none⟩ = some (.int .i64 xm) := keyA 2
              have ca3 : W2.cell? ⟨XA, 3, none⟩ = some (.int .i64 xt) := keyA 3
              have ca4 : W2.cell? ⟨XA, 4, none⟩ = some (.string xb) := keyA 4
              have cb0 : W2.cell? ⟨XB, 0, none⟩ = some (.string ⟨#[]⟩) := keyB 0
              have cb1 : W2.cell? ⟨XB, 1, none⟩ = some (.int .i64 0) := keyB 1
              have cb2 : W2.cell? ⟨XB, 2, none⟩ = some (.int .i64 0) := keyB 2
              have cb3 : W2.cell? ⟨XB, 3, none⟩ = some (.int .i64 0) := keyB 3
              have cb4 : W2.cell? ⟨XB, 4, none⟩ = some (.string ⟨#[]⟩) := keyB 4
              clear keyA keyB
              obtain ⟨s2, W6, hr6, ho6, hg6⟩ := more_ae w7.heap.size u11 ((m.take k).filterMap (tDR a b)) (⟨p, true, im0⟩ : Em) (W2.alloc (.cells #[.string p, .bool true, .string ⟨#[]⟩, .int .i64 0, .int .i64 0, .int .i64 0, .string ⟨#[]⟩] 31)) ((own_below HO.out HBb.out).alloc _) W2.heap.size (heap_alloc_new W2 _) (by have h1 := List.length_filterMap_le (tDR a b) (m.take k); rw [List.length_take] at h1; have := HMl.out; omega) (by have h1 := HB.out.size; have h2 := (HBb.out).size; simp; omega)
              have HO6 : Hid (W6.ownsRow w7.heap.size 31 7 s2 ((m.take (k + 1)).filterMap (tDR a b)).length (rowR emC ((m.take (k + 1)).filterMap (tDR a b)))) := by
                rw [told_step HPk.out, show tDR a b p = some (⟨p, true, im0⟩ : Em) from tDR_none HBe.out, Option.toList_some]; exact ho6
              have HB6 : Hid (Below w7.heap.size w7 W6) := ((HB.out.trans ((HBb.out).mono HB.out.size)).alloc (Nat.le_trans HB.out.size (HBb.out).size) _).grown hg6 (by have h1 := HB.out.size; have h2 := (HBb.out).size; simp; omega) fun g hg => (HO.out.lt g hg).1
              clear ho6 hg6
              go_wp2_with (at_builtin; refine wpL_append_run rfl (.tmp 64) (.tmp 67) 23 23 rfl rfl _ _ s2 W6 rfl rfl hr6 ?_)
              clear hr6 ca0 ca1 ca2 ca3 ca4 cb0 cb1 cb2 cb3 cb4
              go_roundw
              case measure => simp only [intOf]; omega
              case rel => exact ⟨k + 1, by omega, by go_num, HO6, HB6⟩
          | some y =>
            obtain ⟨yp, yk, ym, yt, yb⟩ := y
            cases A with
            | none =>
              have hAx : ∀ W, Below w.heap.size w W → Calls Tryd.prog 27 #[va, .string p] W fun e w' => e = .returned (.tuple #[.agg #[.string ⟨#[]⟩, .int .i64 0, .int .i64 0, .int .i64 0, .string ⟨#[]⟩], .bool false]) ∧ Below W.heap.size W w' := hA
              have hBx : ∀ W, Below w.heap.size w W → Calls Tryd.prog 27 #[vb, .string p] W fun e w' => e = .returned (.tuple #[.agg #[.string yp, .int .i64 yk, .int .i64 ym, .int .i64 yt, .string yb], .bool true]) ∧ Below W.heap.size W w' := hB
              clear hA hB
              go_wp2_with fail
              refine (hAx _ HBr.out).mono ?_
              rintro e w8 ⟨rfl, b8⟩
              obtain ⟨W1, hW1⟩ : ∃ W1, W1 = w8.alloc (.cells #[.string ⟨#[]⟩, .int .i64 0, .int .i64 0, .int .i64 0, .string ⟨#[]⟩] 29) := ⟨_, rfl⟩
              obtain ⟨XA, hXA⟩ : ∃ XA, XA = w8.heap.size := ⟨_, rfl⟩
              have hBa : Below wr.heap.size wr W1 := by rw [hW1]; exact b8.alloc b8.size _
              have HXl : Hid (wr.heap.size ≤ XA) := by show _ ≤ _; rw [hXA]; exact b8.size
              have HBa : Hid (Below wr.heap.size wr W1) := hBa
              have HMa : Hid (W1.heap[XA]? = some (.cells #[.string ⟨#[]⟩, .int .i64 0, .int .i64 0, .int .i64 0, .string ⟨#[]⟩] 29 (0, 0))) := by rw [hW1, hXA]; exact heap_alloc_new w8 _
              clear b8 hBa hAx
              go_wp2_with fail
              rw [← hW1, ← hXA]
              clear hW1 hXA
              refine (hBx _ (HBr.out.trans (HBa.out.mono HBr.out.size))).mono ?_
              rintro e w9 ⟨rfl, b9⟩
              obtain ⟨W2, hW2⟩ : ∃ W2, W2 = w9.alloc (.cells #[.string yp, .int .i64 yk, .int .i64 ym, .int .i64 yt, .string yb] 29) := ⟨_, rfl⟩
              obtain ⟨XB, hXB⟩ : ∃ XB, XB = w9.heap.size := ⟨_, rfl⟩
              have hBb : Below W1.heap.size W1 W2 := by rw [hW2]; exact b9.alloc b9.size _
              have HBb : Hid (Below wr.heap.size wr W2) := HBa.out.trans (hBb.mono HBa.out.size)
              have HMa2 : Hid (W2.heap[XA]? = some (.cells #[.string ⟨#[]⟩, .int .i64 0, .int .i64 0, .int .i64 0, .string ⟨#[]⟩] 29 (0, 0))) := (hBb.block _ (Array.getElem?_eq_some_iff.1 HMa.out).1).trans HMa.out
              have HMb : Hid (W2.heap[XB]? = some (.cells #[.string yp, .int .i64 yk, .int .i64 ym, .int .i64 yt, .string yb] 29 (0, 0))) := by rw [hW2, hXB]; exact heap_alloc_new w9 _
              have HXX : Hid (XA ≠ XB) := by
                have h1 := (Array.getElem?_eq_some_iff.1 HMa.out).1
                have h2 := b9.size
                show _ ≠ _
                omega
              clear b9 hBb hBx HMa HBa
              go_upto_region 19 with fail
              rw [← hW2, ← hXB]
              clear hW2 hXB
              have keyA := fun j => cell_of_row W2 XA j _ _ _ HMa2.out
              have keyB := fun j => cell_of_row W2 XB j _ _ _ HMb.out
              have ca0 : W2.cell? ⟨XA, 0, none⟩ = some (.string ⟨#[]⟩) := keyA 0
              have ca1 : W2.cell? ⟨XA, 1, none⟩ = some (.int .i64 0) := keyA 1
              have ca2 : W2.cell? ⟨XA, 2, none⟩ = some (.int .i64 0) := keyA 2
              have ca3 : W2.cell? ⟨XA, 3, none⟩ = some (.int .i64 0) := keyA 3
              have ca4 : W2.cell? ⟨XA, 4, none⟩ = some (.string ⟨#[]⟩) := keyA 4
              have cb0 : W2.cell? ⟨XB, 0, none⟩ = some (.string yp) := keyB 0
              have cb1 : W2.cell? ⟨XB, 1, none⟩ = some (.int .i64 yk) := keyB 1
              have cb2 : W2.cell? ⟨XB, 2, none⟩ = some (.int .i64 ym) := keyB 2
              have cb3 : W2.cell? ⟨XB, 3, none⟩ = some (.int .i64 yt) := keyB 3
              have cb4 : W2.cell? ⟨XB, 4, none⟩ = some (.string yb) := keyB 4
              clear keyA keyB
              obtain ⟨s2, W6, hr6, ho6, hg6⟩ := more_ae w7.heap.size u11 ((m.take k).filterMap (tDR a b)) (⟨p, false, ⟨yp, yk, ym, yt, yb⟩⟩ : Em) (W2.alloc (.cells #[.string p, .bool false, .string yp, .int .i64 yk, .int .i64 ym, .int .i64 yt, .string yb] 31)) ((own_below HO.out HBb.out).alloc _) W2.heap.size (heap_alloc_new W2 _) (by have h1 := List.length_filterMap_le (tDR a b) (m.take k); rw [List.length_take] at h1; have := HMl.out; omega) (by have h1 := HB.out.size; have h2 := (HBb.out).size; simp; omega)
              have HO6 : Hid (W6.ownsRow w7.heap.size 31 7 s2 ((m.take (k + 1)).filterMap (tDR a b)).length (rowR emC ((m.take (k + 1)).filterMap (tDR a b)))) := by
                rw [told_step HPk.out, show tDR a b p = some (⟨p, false, ⟨yp, yk, ym, yt, yb⟩⟩ : Em) from tDR_new HBe.out HAe.out, Option.toList_some]; exact ho6
              have HB6 : Hid (Below w7.heap.size w7 W6) := ((HB.out.trans ((HBb.out).mono HB.out.size)).alloc (Nat.le_trans HB.out.size (HBb.out).size) _).grown hg6 (by have h1 := HB.out.size; have h2 := (HBb.out).size; simp; omega) fun g hg => (HO.out.lt g hg).1
              clear ho6 hg6
              go_wp2_with (at_builtin; refine wpL_append_run rfl (.tmp 76) (.tmp 80) 23 23 rfl rfl _ _ s2 W6 rfl rfl hr6 ?_)
              clear hr6 ca0 ca1 ca2 ca3 ca4 cb0 cb1 cb2 cb3 cb4
              go_roundw
              case measure => simp only [intOf]; omega
              case rel => exact ⟨k + 1, by omega, by go_num, HO6, HB6⟩
            | some x =>
              obtain ⟨xp, xk, xm, xt, xb⟩ := x
              have hAx : ∀ W, Below w.heap.size w W → Calls Tryd.prog 27 #[va, .string p] W fun e w' => e = .returned (.tuple #[.agg #[.string xp, .int .i64 xk, .int .i64 xm, .int .i64 xt, .string xb], .bool true]) ∧ Below W.heap.size W w' := hA
              have hBx : ∀ W, Below w.heap.size w W → Calls Tryd.prog 27 #[vb, .string p] W fun e w' => e = .returned (.tuple #[.agg #[.string yp, .int .i64 yk, .int .i64 ym, .int .i64 yt, .string yb], .bool true]) ∧ Below W.heap.size W w' := hB
              clear hA hB
              go_wp2_with fail
              refine (hAx _ HBr.out).mono ?_
              rintro e w8 ⟨rfl, b8⟩
              obtain ⟨W1, hW1⟩ : ∃ W1, W1 = w8.alloc (.cells #[.string xp, .int .i64 xk, .int .i64 xm, .int .i64 xt, .string xb] 29) := ⟨_, rfl⟩
              obtain ⟨XA, hXA⟩ : ∃ XA, XA = w8.heap.size := ⟨_, rfl⟩
              have hBa : Below wr.heap.size wr W1 := by rw [hW1]; exact b8.alloc b8.size _
              have HXl : Hid (wr.heap.size ≤ XA) := by show _ ≤ _; rw [hXA]; exact b8.size
              have HBa : Hid (Below wr.heap.size wr W1) := hBa
              have HMa : Hid (W1.heap[XA]? = some (.cells #[.string xp, .int .i64 xk, .int .i64 xm, .int .i64 xt, .string xb] 29 (0, 0))) := by rw [hW1, hXA]; exact heap_alloc_new w8 _
              clear b8 hBa hAx
              go_wp2_with fail
              rw [← hW1, ← hXA]
              clear hW1 hXA
              refine (hBx _ (HBr.out.trans (HBa.out.mono HBr.out.size))).mono ?_
              rintro e w9 ⟨rfl, b9⟩
              obtain ⟨W2, hW2⟩ : ∃ W2, W2 = w9.alloc (.cells #[.string yp, .int .i64 yk, .int .i64 ym, .int .i64 yt, .string yb] 29) := ⟨_, rfl⟩
              obtain ⟨XB, hXB⟩ : ∃ XB, XB = w9.heap.size := ⟨_, rfl⟩
              have hBb : Below W1.heap.size W1 W2 := by rw [hW2]; exact b9.alloc b9.size _
              have HBb : Hid (Below wr.heap.size wr W2) := HBa.out.trans (hBb.mono HBa.out.size)
              have HMa2 : Hid (W2.heap[XA]? = some (.cells #[.string xp, .int .i64 xk, .int .i64 xm, .int .i64 xt, .string xb] 29 (0, 0))) := (hBb.block _ (Array.getElem?_eq_some_iff.1 HMa.out).1).trans HMa.out
              have HMb : Hid (W2.heap[XB]? = some (.cells #[.string yp, .int .i64 yk, .int .i64 ym, .int .i64 yt, .string yb] 29 (0, 0))) := by rw [hW2, hXB]; exact heap_alloc_new w9 _
              have HXX : Hid (XA ≠ XB) := by
                have h1 := (Array.getElem?_eq_some_iff.1 HMa.out).1
                have h2 := b9.size
                show _ ≠ _
                omega
              clear b9 hBb hBx HMa HBa
              go_upto_region 19 with fail
              rw [← hW2, ← hXB]
              clear hW2 hXB
              have keyA := fun j => cell_of_row W2 XA j _ _ _ HMa2.out
              have keyB := fun j => cell_of_row W2 XB j _ _ _ HMb.out
              have ca0 : W2.cell? ⟨XA, 0, none⟩ = some (.string xp) := keyA 0
              have ca1 : W2.cell? ⟨XA, 1, none⟩ = some (.int .i64 xk) := keyA 1
              have ca2 : W2.cell? ⟨XA, 2, none⟩ = some (.int .i64 xm) := keyA 2
              have ca3 : W2.cell? ⟨XA, 3, none⟩ = some (.int .i64 xt) := keyA 3
              have ca4 : W2.cell? ⟨XA, 4, none⟩ = some (.string xb) := keyA 4
              have cb0 : W2.cell? ⟨XB, 0, none⟩ = some (.string yp) := keyB 0
              have cb1 : W2.cell? ⟨XB, 1, none⟩ = some (.int .i64 yk) := keyB 1
              have cb2 : W2.cell? ⟨XB, 2, none⟩ = some (.int .i64 ym) := keyB 2
              have cb3 : W2.cell? ⟨XB, 3, none⟩ = some (.int .i64 yt) := keyB 3
              have cb4 : W2.cell? ⟨XB, 4, none⟩ = some (.string yb) := keyB 4
              clear keyA keyB
              have heq : ∀ W, (Op.equalIn 10000 29 (.agg #[.string xp, .int .i64 xk, .int .i64 xm, .int .i64 xt, .string xb]) (.agg #[.string yp, .int .i64 yk, .int .i64 ym, .int .i64 yt, .string yb])).run Tryd.prog W = .ok (imSame ⟨xp, xk, xm, xt, xb⟩ ⟨yp, yk, ym, yt, yb⟩) W := fun W => it_cmp W ⟨xp, xk, xm, xt, xb⟩ ⟨yp, yk, ym, yt, yb⟩
              obtain ⟨SM, hSM⟩ : ∃ SM, SM = imSame ⟨xp, xk, xm, xt, xb⟩ ⟨yp, yk, ym, yt, yb⟩ := ⟨_, rfl⟩
              have HSM : Hid (SM = imSame ⟨xp, xk, xm, xt, xb⟩ ⟨yp, yk, ym, yt, yb⟩) := hSM
              rw [← hSM] at heq
              clear hSM
              cases SM with
              | true =>
                have HO6 : Hid (W2.ownsRow w7.heap.size 31 7 u11 ((m.take (k + 1)).filterMap (tDR a b)).length (rowR emC ((m.take (k + 1)).filterMap (tDR a b)))) := by
                  rw [told_step HPk.out, show tDR a b p = none from tDR_same HBe.out HAe.out HSM.out, Option.toList_none, List.append_nil]; exact own_below HO.out HBb.out
                have HB6 : Hid (Below w7.heap.size w7 W2) := HB.out.trans ((HBb.out).mono HB.out.size)
                go_wp2_with fail
                clear ca0 ca1 ca2 ca3 ca4 cb0 cb1 cb2 cb3 cb4 heq
                go_roundw
                case measure => simp only [intOf]; omega
                case rel => exact ⟨k + 1, by omega, by go_num, HO6, HB6⟩
              | false =>
                obtain ⟨s2, W6, hr6, ho6, hg6⟩ := more_ae w7.heap.size u11 ((m.take k).filterMap (tDR a b)) (⟨p, false, ⟨yp, yk, ym, yt, yb⟩⟩ : Em) (W2.alloc (.cells #[.string p, .bool false, .string yp, .int .i64 yk, .int .i64 ym, .int .i64 yt, .string yb] 31)) ((own_below HO.out HBb.out).alloc _) W2.heap.size (heap_alloc_new W2 _) (by have h1 := List.length_filterMap_le (tDR a b) (m.take k); rw [List.length_take] at h1; have := HMl.out; omega) (by have h1 := HB.out.size; have h2 := (HBb.out).size; simp; omega)
                have HO6 : Hid (W6.ownsRow w7.heap.size 31 7 s2 ((m.take (k + 1)).filterMap (tDR a b)).length (rowR emC ((m.take (k + 1)).filterMap (tDR a b)))) := by
                  rw [told_step HPk.out, show tDR a b p = some (⟨p, false, ⟨yp, yk, ym, yt, yb⟩⟩ : Em) from tDR_other HBe.out HAe.out HSM.out, Option.toList_some]; exact ho6
                have HB6 : Hid (Below w7.heap.size w7 W6) := ((HB.out.trans ((HBb.out).mono HB.out.size)).alloc (Nat.le_trans HB.out.size (HBb.out).size) _).grown hg6 (by have h1 := HB.out.size; have h2 := (HBb.out).size; simp; omega) fun g hg => (HO.out.lt g hg).1
                clear ho6 hg6
                go_wp2_with (at_builtin; refine wpL_append_run rfl (.tmp 76) (.tmp 80) 23 23 rfl rfl _ _ s2 W6 rfl rfl hr6 ?_)
                clear hr6 ca0 ca1 ca2 ca3 ca4 cb0 cb1 cb2 cb3 cb4
                go_roundw
                case measure => simp only [intOf]; omega
                case rel => exact ⟨k + 1, by omega, by go_num, HO6, HB6⟩
        · obtain rfl : M = k := by omega
          have HO2 : Hid (wr.ownsRow w7.heap.size 31 7 u11 (m.filterMap (tDR a b)).length (rowR emC (m.filterMap (tDR a b)))) := by
            have h := HO.out
            rw [List.take_of_length_le (by have := HM.out; omega)] at h
            exact h
          have HBw : Hid (Below w.heap.size w wr) := HB7.out.trans (HB.out.mono HB7.out.size)
          have HLo : Hid ((m.filterMap (tDR a b)).length ≤ 1000) := Nat.le_trans (List.length_filterMap_le _ _) HMl.out
          clear HO HB
          have HRe : Hid (RP = (edl (m.filterMap (tDR a b)), 0)) := by
            show _ = _
            rw [HP.out, if_neg (fun q => q HEA0.out), if_neg (fun q => q HEB0.out), ← HDm.out]
            exact congrArg (fun q => (q, (0 : Int))) (told_dl (u := Em.ed) (diffE_R a b))
          have HOf : Hid (wr.ownsRow w.heap.size 31 7 u11 (m.filterMap (tDR a b)).length (rowR emC (m.filterMap (tDR a b)))) := own_lower HO2.out HB7.out.size
          clear HP
          go_wp2_with fail
          go_ret2
          exact ⟨_, _, by rw [HRe.out]; rfl, HOf.out, by rw [HRe.out], HBw.out⟩

end Go.Proofs.YthpcbbkpjggjbaaDoor

namespace Go.Proofs.YthpcbbkpjggjbaaDoor
open Go.RowKit
set_option maxRecDepth 4000

theorem diff_few {a b : List Wk.It} {D : List Dl.Ed} {E : Int} (h : Dl.diff a b = (D, E)) : D.length ≤ 200 := by
  by_cases e : E = 0
  · obtain ⟨h1, h2⟩ := (diff_err h).1 e
    have := (Dl.check_ok.1 (Dl.diff_ok h1 h2).2).1
    rwa [h] at this
  · rw [((diff_err h).2 e).1]; simp

set_option maxHeartbeats 4000000 in
theorem deltaDiffs_walk (v0 : Value) (l0 : List Im) (v1 : Value) (l1 : List Im) (z0 : l0.length ≤ 140737488351232) (f0 : ∀ x ∈ l0, x.Ok) (y0 : ∀ x ∈ l0, x.path.size ≤ 1048576 ∧ x.bytes.size ≤ 1048576) (z1 : l1.length ≤ 140737488351232) (f1 : ∀ x ∈ l1, x.Ok) (y1 : ∀ x ∈ l1, x.path.size ≤ 1048576 ∧ x.bytes.size ≤ 1048576) (w : World) (t0 : Ims w v0 l0) (t1 : Ims w v1 l1) (hT : Tabs w) :
    Calls Tryd.prog 3 #[v0, v1] w fun e w' => e = .returned (.bool true) ∧ Below w.heap.size w w' := by
  have X0 : Hid (Ims w v0 l0) := t0
  have O0 : Hid (∀ x ∈ l0, x.Ok) := f0
  have Y0 : Hid (∀ x ∈ l0, x.path.size ≤ 1048576 ∧ x.bytes.size ≤ 1048576) := y0
  have X1 : Hid (Ims w v1 l1) := t1
  have O1 : Hid (∀ x ∈ l1, x.Ok) := f1
  have Y1 : Hid (∀ x ∈ l1, x.path.size ≤ 1048576 ∧ x.bytes.size ≤ 1048576) := y1
  have HT : Hid (Tabs w) := hT
  clear t0 f0 y0 t1 f1 y1 hT
  obtain ⟨D, E, hD⟩ : ∃ D E, Dl.diff (its l0) (its l1) = (D, E) := ⟨_, _, rfl⟩
  have HD : Hid (Dl.diff (its l0) (its l1) = (D, E)) := hD
  clear hD
  have h1 := ddiff_say X0.out X1.out z0 z1 O0.out O1.out HT.out HD.out
  go_enter Tryd.func3, Tryd.ntmps3
  go_wp2_with fail
  refine h1.mono ?_
  rintro e w1 ⟨sa, sc, m1, rfl, hr1, hm1, _, b1⟩
  have HB1 : Hid (Below w.heap.size w w1) := b1
  have HR1 : Hid (Eds w1 (.slice sa m1.length sc) m1 ∧ edl m1 = D) := ⟨Rx.of_own emC_length hr1, hm1⟩
  have hg : m1.length ≤ 200 := by rw [← edl_length, hm1]; exact diff_few HD.out
  have h2 := rdiff_any v0 v1 l0 l1 w1 (X0.out.below b1) (X1.out.below b1) z0 z1 Y0.out Y1.out
  rw [HD.out] at h2
  dsimp only at h2
  clear h1 hr1 hm1 b1
  go_wp2_with fail
  refine h2.mono ?_
  rintro e w2 ⟨v2, m2, rfl, hr2, hm2, b2⟩
  have HB2 : Hid (Below w.heap.size w w2) := HB1.out.trans (b2.mono HB1.out.size)
  obtain rfl : m2 = m1 := edl_inj (hm2.trans HR1.out.2.symm)
  obtain ⟨ta, tc, rfl⟩ := own_form hr2
  have heq := equal_eds (.slice sa m2.length sc) (.slice ta m2.length tc) m2 m2 w2 (HR1.out.1.below b2) (Rx.of_own emC_length hr2) (by omega)
  clear h2 hr2 hm2 b2 HR1
  generalize m2.length = n at *
  go_wp2_with (refine heq.mono ?_; rintro e w3 ⟨q, rfl, hq, b3⟩; obtain rfl : q = true := hq.2 (by first | exact trivial | rfl); have HB3 : Hid (Below w.heap.size w w3) := HB2.out.trans (b3.mono HB2.out.size); clear hq b3 heq)
  go_ret
  exact ⟨rfl, HB3.out⟩

end Go.Proofs.YthpcbbkpjggjbaaDoor

namespace Go.Proofs.YthpcbbkpjggjbaaDoor
open Go.RowKit Go.ChangeShapes Go.WideShapes Go.Deep Go.Joins
set_option maxRecDepth 20000

section
variable {H : Type} {enc : TypeId × Value → H} {w : World} {base : Nat} {spare : Nat → Bool} {held : Bool}

/-- rows of things that have rows themselves -/
theorem open_rw {α : Type} {k : Nat} {R : World → α → List Value → Prop} {T E : TypeId} (hu : Tryd.prog.underlying T = some (.slice E)) (hk : Tryd.prog.cellsOf E = k) (hk0 : 0 < k)
    {q : α → DataW H → Prop} (ho : ∀ n cs (x : DataW H × List MemPlace), cs.length = k → DataW.trod enc Tryd.prog w base spare held n E cs = some x → (∀ y ∈ x.2, y.block < w.heap.size) → ∃ t, R w t cs ∧ q t x.1)
    {fuel : Nat} {sa : Option Addr} {len cap : Nat} {x : DataW H × List MemPlace} (h : DataW.trod enc Tryd.prog w base spare held fuel T [.slice sa len cap] = some x) (hlt : ∀ y ∈ x.2, y.block < w.heap.size) :
    ∃ l : List α, Rw k R w (.slice sa len cap) l ∧ len ≤ cap ∧ cap ≤ 9223372036854775807 ∧ (l = [] ∨ ∃ elems sp, x.1 = .slice elems sp ∧ l.length = elems.length ∧ ∀ t ∈ l, ∃ d ∈ elems, q t d) := by
  rcases open_slice hu h with ⟨hcs, hx⟩ | ⟨a, len', cap', m, n, D, Pl, hcs, _, hl, hm, hmm, hx, hall⟩
  · simp at hcs
    obtain ⟨rfl, rfl, rfl⟩ := hcs
    exact ⟨[], Rw.nil _ _, Nat.le_refl _, by omega, .inl rfl⟩
  · simp at hcs
    obtain ⟨rfl, rfl, rfl⟩ := hcs
    have hlm : len ≤ m := by rw [hmm]; split <;> omega
    rw [hk] at hall
    subst hx
    obtain ⟨L, hL, hT⟩ := choose_row (q := fun i t => ∃ cs, w.cells? base (a.add (i * k)) k = some cs ∧ R w t cs ∧ q t (D i)) len (fun i hi => by
      obtain ⟨cs', h1, h2⟩ := hall i (by omega)
      obtain ⟨_, hlen, _⟩ := World.cells?_some h1
      obtain ⟨t, h3⟩ := ho _ _ _ hlen h2 fun y hy => hlt y (List.mem_append_right _ (List.mem_flatMap.2 ⟨i, List.mem_range.2 (by omega), hy⟩))
      exact ⟨t, cs', h1, h3⟩)
    have hm' : cap ≤ 9223372036854775807 := by unfold maxLen at hm; omega
    refine ⟨L, ?_, hl, hm', .inr ⟨_, _, rfl, by simp [hL], fun t ht => ?_⟩⟩
    rotate_left
    · obtain ⟨i, hi, rfl⟩ := List.getElem_of_mem ht
      obtain ⟨_, _, _, h3⟩ := hT i _ (List.getElem?_eq_getElem hi)
      exact ⟨D i, List.mem_map_of_mem (List.mem_range.2 (by omega)), h3⟩
    by_cases hc0 : len = 0
    · subst hc0
      exact ⟨.inl ⟨⟨_, _, rfl⟩, List.length_eq_zero_iff.1 hL⟩⟩
    · have hcell : ∀ j t, L[j]? = some t → ∃ cs : List Value, cs.length = k ∧ R w t cs ∧ ∀ r v, cs[r]? = some v → w.cell? (a.add (j * k + r)) = some v := fun j t hj => by
        obtain ⟨cs, h1, h2, _⟩ := hT j t hj
        obtain ⟨_, hlen, hc⟩ := World.cells?_some h1
        refine ⟨cs, hlen, h2, fun r v hv => ?_⟩
        have hr : r < k := by
          have := (List.getElem?_eq_some_iff.1 hv).1
          omega
        have := hc r hr
        rw [add_add, hv] at this
        exact this
      obtain ⟨b, off, spot⟩ := a
      have hspot : spot = none := by
        obtain ⟨cs, c1, _, c3⟩ := hcell 0 _ (List.getElem?_eq_getElem (by omega))
        have h0 : cs[0]? = some (cs[0]'(by omega)) := List.getElem?_eq_getElem _
        simpa [Addr.add] using World.cell?_spot (c3 0 _ h0)
      subst hspot
      have hpos : 0 < m * k := Nat.mul_pos (by omega) hk0
      have hbW : b < w.heap.size := hlt (.cell b off) (List.mem_append_left _ (MemPlace.mem_row.2 ⟨0, by rw [hk]; exact hpos, by simp⟩))
      refine ⟨.inr ⟨b, off, cap, by rw [hL], by omega, hbW, fun j t hj => ?_⟩⟩
      obtain ⟨cs, c1, c2, c3⟩ := hcell j t hj
      refine ⟨cs, c1, c2, fun r u hu => ?_⟩
      have e := c3 r u hu
      rw [add_plain] at e
      rw [Nat.add_assoc]
      exact e

theorem trod_struct7 {P : Program} {t : TypeId} {f0 f1 f2 f3 f4 f5 f6 : Field} {fuel : Nat} {cs : List Value} {x : DataW H × List MemPlace} (ht : P.underlying t = some (.struct #[f0, f1, f2, f3, f4, f5, f6])) (h : DataW.trod enc P w base spare held fuel t cs = some x) :
    ∃ y0 y1 y2 y3 y4 y5 y6 n, x = (.agg [y0.1, y1.1, y2.1, y3.1, y4.1, y5.1, y6.1], y0.2 ++ (y1.2 ++ (y2.2 ++ (y3.2 ++ (y4.2 ++ (y5.2 ++ y6.2)))))) ∧ cs.length = P.cellsOf t ∧ DataW.trod enc P w base spare held n f0.type ((cs.drop f0.offset).take (P.cellsOf f0.type)) = some y0 ∧
      DataW.trod enc P w base spare held n f1.type ((cs.drop f1.offset).take (P.cellsOf f1.type)) = some y1 ∧ DataW.trod enc P w base spare held n f2.type ((cs.drop f2.offset).take (P.cellsOf f2.type)) = some y2 ∧
      DataW.trod enc P w base spare held n f3.type ((cs.drop f3.offset).take (P.cellsOf f3.type)) = some y3 ∧ DataW.trod enc P w base spare held n f4.type ((cs.drop f4.offset).take (P.cellsOf f4.type)) = some y4 ∧
      DataW.trod enc P w base spare held n f5.type ((cs.drop f5.offset).take (P.cellsOf f5.type)) = some y5 ∧ DataW.trod enc P w base spare held n f6.type ((cs.drop f6.offset).take (P.cellsOf f6.type)) = some y6 := by
  obtain ⟨xs, n, _, rfl, hl, hlen, hf⟩ := DataW.trod_struct ht h
  match xs, hlen with
  | [y0, y1, y2, y3, y4, y5, y6], _ => exact ⟨y0, y1, y2, y3, y4, y5, y6, n, by simp, hl, by simpa using hf 0 f0 rfl, by simpa using hf 1 f1 rfl, by simpa using hf 2 f2 rfl, by simpa using hf 3 f3 rfl, by simpa using hf 4 f4 rfl, by simpa using hf 5 f5 rfl, by simpa using hf 6 f6 rfl⟩

end

end Go.Proofs.YthpcbbkpjggjbaaDoor

namespace Go.Proofs.YthpcbbkpjggjbaaDoor
open Go.RowKit Go.ChangeShapes Go.WideShapes Go.Deep Go.Joins
set_option maxRecDepth 20000

section
variable {H : Type} {enc : TypeId × Value → H} {w : World} {base : Nat} {spare : Nat → Bool} {held : Bool}

def blobD (H : Type) (b : Blb) : DataW H := .agg [.lit (.int .i64 b.kind), .lit (.string b.bytes.data.toList)]

def wayD (H : Type) (fx mn mx bt : Int) : DataW H := .agg [.lit (.int .i64 fx), .agg [.lit (.int .i64 mn), .lit (.int .i64 mx), .lit (.int .i64 bt)]]

def WyOk (fx mn mx bt : Int) : Prop := (Lit.int .i64 fx).wf = true ∧ (Lit.int .i64 mn).wf = true ∧ (Lit.int .i64 mx).wf = true ∧ (Lit.int .i64 bt).wf = true

theorem wk_struct2 {P : Program} {t : TypeId} {f0 f1 : Field} {fuel : Nat} {cs : List Value} {x : DataW H × List MemPlace} (ht : P.underlying t = some (.struct #[f0, f1])) (h : DataW.trod enc P w base spare held fuel t cs = some x) :
    ∃ y0 y1 n, x = (.agg [y0.1, y1.1], y0.2 ++ y1.2) ∧ cs.length = P.cellsOf t ∧ DataW.trod enc P w base spare held n f0.type ((cs.drop f0.offset).take (P.cellsOf f0.type)) = some y0 ∧ DataW.trod enc P w base spare held n f1.type ((cs.drop f1.offset).take (P.cellsOf f1.type)) = some y1 := by
  obtain ⟨xs, n, _, rfl, hl, hlen, hf⟩ := DataW.trod_struct ht h
  match xs, hlen with
  | [y0, y1], _ => exact ⟨y0, y1, n, by simp, hl, by simpa using hf 0 f0 rfl, by simpa using hf 1 f1 rfl⟩

theorem wk_struct5 {P : Program} {t : TypeId} {f0 f1 f2 f3 f4 : Field} {fuel : Nat} {cs : List Value} {x : DataW H × List MemPlace} (ht : P.underlying t = some (.struct #[f0, f1, f2, f3, f4])) (h : DataW.trod enc P w base spare held fuel t cs = some x) :
    ∃ y0 y1 y2 y3 y4 n, x = (.agg [y0.1, y1.1, y2.1, y3.1, y4.1], y0.2 ++ (y1.2 ++ (y2.2 ++ (y3.2 ++ y4.2)))) ∧ cs.length = P.cellsOf t ∧ DataW.trod enc P w base spare held n f0.type ((cs.drop f0.offset).take (P.cellsOf f0.type)) = some y0 ∧
      DataW.trod enc P w base spare held n f1.type ((cs.drop f1.offset).take (P.cellsOf f1.type)) = some y1 ∧ DataW.trod enc P w base spare held n f2.type ((cs.drop f2.offset).take (P.cellsOf f2.type)) = some y2 ∧
      DataW.trod enc P w base spare held n f3.type ((cs.drop f3.offset).take (P.cellsOf f3.type)) = some y3 ∧ DataW.trod enc P w base spare held n f4.type ((cs.drop f4.offset).take (P.cellsOf f4.type)) = some y4 := by
  obtain ⟨xs, n, _, rfl, hl, hlen, hf⟩ := DataW.trod_struct ht h
  match xs, hlen with
  | [y0, y1, y2, y3, y4], _ => exact ⟨y0, y1, y2, y3, y4, n, by simp, hl, by simpa using hf 0 f0 rfl, by simpa using hf 1 f1 rfl, by simpa using hf 2 f2 rfl, by simpa using hf 3 f3 rfl, by simpa using hf 4 f4 rfl⟩

def itD (H : Type) (x : Im) : DataW H := .agg [.lit (.string x.path.data.toList), .lit (.int .i64 x.kind), .lit (.int .i64 x.mode), .lit (.int .i64 x.time), .lit (.string x.bytes.data.toList)]

theorem it_fields : ∃ f0 f1 f2 f3 f4, Tryd.prog.underlying 29 = some (.struct #[f0, f1, f2, f3, f4]) ∧ f0.type = 9 ∧ f0.offset = 0 ∧ f1.type = 3 ∧ f1.offset = 1 ∧ f2.type = 3 ∧ f2.offset = 2 ∧ f3.type = 3 ∧ f3.offset = 3 ∧ f4.type = 9 ∧ f4.offset = 4 :=
  ⟨_, _, _, _, _, Tryd.underlying29, rfl, rfl, rfl, rfl, rfl, rfl, rfl, rfl, rfl, rfl⟩

theorem ce_it : Tryd.prog.cellsOf 29 = 5 := by kernel_rfl

/-- what is sure of an item that comes in -/
def ImIn (x : Im) : Prop := (Lit.int .i64 x.kind).wf = true ∧ (Lit.int .i64 x.mode).wf = true ∧ (Lit.int .i64 x.time).wf = true

theorem open_item {n : Nat} {cs : List Value} {x : DataW H × List MemPlace} (hc : cs.length = 5) (h : DataW.trod enc Tryd.prog w base spare held n 29 cs = some x) : ∃ t : Im, (cs = imC t ∧ ImIn t) ∧ x.1 = itD H t := by
  obtain ⟨f0, f1, f2, f3, f4, hu, t0, o0, t1, o1, t2, o2, t3, o3, t4, o4⟩ := it_fields
  obtain ⟨y0, y1, y2, y3, y4, m, hx, _, g0, g1, g2, g3, g4⟩ := wk_struct5 hu h
  have ks : Tryd.prog.cellsOf 9 = 1 := by kernel_rfl
  match cs, hc with
  | [v0, v1, v2, v3, v4], _ =>
    simp only [t0, o0, t1, o1, ce_int, t2, o2, t3, o3, t4, o4, ks] at g0 g1 g2 g3 g4
    obtain ⟨b0, c0, x0, s0⟩ := DataW.trod_string Tryd.underlying9 g0
    obtain ⟨i1, c1, x1, w1⟩ := DataW.trod_int Tryd.underlying3 g1
    obtain ⟨i2, c2, x2, w2⟩ := DataW.trod_int Tryd.underlying3 g2
    obtain ⟨i3, c3, x3, w3⟩ := DataW.trod_int Tryd.underlying3 g3
    obtain ⟨b4, c4, x4, s4⟩ := DataW.trod_string Tryd.underlying9 g4
    obtain rfl : v0 = .string b0 := by simpa using c0
    obtain rfl : v1 = .int .i64 i1 := by simpa using c1
    obtain rfl : v2 = .int .i64 i2 := by simpa using c2
    obtain rfl : v3 = .int .i64 i3 := by simpa using c3
    obtain rfl : v4 = .string b4 := by simpa using c4
    exact ⟨⟨b0, i1, i2, i3, b4⟩, ⟨rfl, w1, w2, w3⟩, by rw [hx, x0, x1, x2, x3, x4]; rfl⟩

theorem open_items {fuel : Nat} {sa : Option Addr} {len cap : Nat} {x : DataW H × List MemPlace} (h : DataW.trod enc Tryd.prog w base spare held fuel 22 [.slice sa len cap] = some x) (hlt : ∀ y ∈ x.2, y.block < w.heap.size) :
    ∃ l : List Im, Ims w (.slice sa len cap) l ∧ (∀ t ∈ l, ImIn t) ∧ (l = [] ∨ ∃ elems sp, x.1 = .slice elems sp ∧ l.length = elems.length ∧ ∀ t ∈ l, itD H t ∈ elems) := by
  obtain ⟨l, hl, h1, h2, h3⟩ := open_rw (R := fun _ (t : Im) c => c = imC t ∧ ImIn t) (q := fun t d => d = itD H t) Tryd.underlying22 ce_it (by omega) (fun n cs x hc hx _ => by
    obtain ⟨t, a, b⟩ := open_item hc hx
    exact ⟨t, a, b⟩) h hlt
  have hin : ∀ t ∈ l, ImIn t := by
    obtain ⟨hat⟩ := hl
    rcases hat with ⟨_, hn⟩ | ⟨bk, o, cp, _, _, _, hc⟩
    · rw [hn]; exact fun t ht => absurd ht List.not_mem_nil
    · intro t ht
      obtain ⟨j, hj, rfl⟩ := List.getElem_of_mem ht
      obtain ⟨c, _, ⟨_, q⟩, _⟩ := hc j _ (List.getElem?_eq_getElem hj)
      exact q
  refine ⟨l, ?_, hin, h3.imp id fun ⟨elems, sp, a, b, c⟩ => ⟨elems, sp, a, b, fun t ht => ?_⟩⟩
  · obtain ⟨hat⟩ := hl
    rcases hat with ⟨⟨a, c, e⟩, hn⟩ | ⟨bk, o, cp, e, hle, hbk, hc⟩
    · cases e
      exact ⟨.inl ⟨⟨_, _, rfl⟩, hn⟩, _, _, _, rfl, h1, h2⟩
    · cases e
      refine ⟨.inr ⟨bk, o, cap, rfl, hbk, fun j t hj r u hu => ?_⟩, _, _, _, rfl, h1, h2⟩
      obtain ⟨cs, _, ⟨rfl, _⟩, q⟩ := hc j t hj
      exact q r u hu
  · obtain ⟨d, hd, rfl⟩ := c t ht
    exact hd

theorem weights_all {P : Program} {e : TypeId} : ∀ {elems : List (DataW H)} {d : DataW H}, d ∈ elems → ∀ n ∈ d.weights P e, n ∈ DataW.weightsAll P e elems
  | [], d, h, _, _ => absurd h List.not_mem_nil
  | x :: l, d, h, n, hn => by
    rw [DataW.weightsAll, List.mem_append]
    rcases List.mem_cons.1 h with rfl | h
    · exact .inl hn
    · exact .inr (weights_all h n hn)

theorem sized_items {ts : List TypeId} {ds : List (DataW H)} (h : (DataW.weightsEach Tryd.prog ts ds).all (· ≤ reachBytes) = true) {j : Nat} {l : List Im} {elems sp : List (DataW H)} (ht : ts[j]? = some 22) (hd : ds[j]? = some (.slice elems sp)) (hm : ∀ t ∈ l, itD H t ∈ elems) (hin : ∀ t ∈ l, ImIn t) : ∀ t ∈ l, t.Ok := by
  intro t htl
  obtain ⟨f0, f1, f2, f3, f4, hu, e0, _, e1, _, e2, _, e3, _, e4, _⟩ := it_fields
  have hall : ∀ n ∈ (itD H t).weights Tryd.prog 29, n ≤ reachBytes := fun n hn => by
    have := List.all_eq_true.1 h n (DataW.weights_mem_each ht hd n (by
      rw [DataW.weights, Tryd.underlying22]
      exact List.mem_cons_of_mem _ (List.mem_append_left _ (weights_all (hm t htl) n hn))))
    simpa using this
  have hp := hall t.path.data.toList.length (by simp [itD, DataW.weights, DataW.weightsEach, hu])
  have hb := hall t.bytes.data.toList.length (by simp [itD, DataW.weights, DataW.weightsEach, hu])
  simp only [reachBytes] at hp hb
  exact ⟨by rw [Lib.size_eq]; exact hp, by rw [Lib.size_eq]; exact hb, (hin t htl).2.2⟩

theorem in_bulk {elems : List (DataW H)} {d : DataW H} (h : d ∈ elems) : Rows.uptoBulk d ≤ Rows.uptoBulkAll elems := by
  induction elems with
  | nil => exact (List.not_mem_nil h).elim
  | cons e l ih =>
    rw [Rows.uptoBulkAll]
    rcases List.mem_cons.1 h with rfl | h
    · omega
    · have := ih h; omega

theorem bulk_items {l : List Im} {elems : List (DataW H)} (h : ∀ t ∈ l, itD H t ∈ elems) : ∀ x ∈ l, x.path.size ≤ Rows.uptoBulkAll elems ∧ x.bytes.size ≤ Rows.uptoBulkAll elems := fun x hx => by
  have h1 := in_bulk (h x hx)
  have h2 : x.path.data.toList.length + x.bytes.data.toList.length ≤ Rows.uptoBulk (itD H x) := by
    simp only [itD, Rows.uptoBulk, Rows.uptoBulkAll]
    omega
  rw [Lib.size_eq, Lib.size_eq]
  omega

end

end Go.Proofs.YthpcbbkpjggjbaaDoor

namespace Go.Proofs.YthpcbbkpjggjbaaDoor
open Go.RowKit Go.ChangeShapes Go.WideShapes Go.Deep Go.Joins
set_option maxRecDepth 20000

section
variable {H : Type} {enc : TypeId × Value → H} {w : World} {base : Nat} {spare : Nat → Bool} {held : Bool}

def edD (H : Type) (x : Em) : DataW H := .agg [.lit (.string x.path.data.toList), .lit (.bool x.gone), itD H x.item]

theorem ed_fields : ∃ f0 f1 f2, Tryd.prog.underlying 31 = some (.struct #[f0, f1, f2]) ∧ f0.type = 9 ∧ f0.offset = 0 ∧ f1.type = 4 ∧ f1.offset = 1 ∧ f2.type = 29 ∧ f2.offset = 2 :=
  ⟨_, _, _, Tryd.underlying31, rfl, rfl, rfl, rfl, rfl, rfl⟩

theorem ce_ed : Tryd.prog.cellsOf 31 = 7 := by kernel_rfl

/-- what is sure of an edit that comes in -/
def EmIn (x : Em) : Prop := ImIn x.item

theorem open_edit {n : Nat} {cs : List Value} {x : DataW H × List MemPlace} (hc : cs.length = 7) (h : DataW.trod enc Tryd.prog w base spare held n 31 cs = some x) : ∃ t : Em, (cs = emC t ∧ EmIn t) ∧ x.1 = edD H t := by
  obtain ⟨f0, f1, f2, hu, t0, o0, t1, o1, t2, o2⟩ := ed_fields
  obtain ⟨y0, y1, y2, m, hx, _, g0, g1, g2⟩ := trod_struct3 hu h
  have ks : Tryd.prog.cellsOf 9 = 1 := by kernel_rfl
  have kb : Tryd.prog.cellsOf 4 = 1 := by kernel_rfl
  match cs, hc with
  | [v0, v1, v2, v3, v4, v5, v6], _ =>
    simp only [t0, o0, t1, o1, t2, o2, ks, kb, ce_it] at g0 g1 g2
    have g2 : DataW.trod enc Tryd.prog w base spare held m 29 [v2, v3, v4, v5, v6] = some y2 := g2
    obtain ⟨b0, c0, x0, s0⟩ := DataW.trod_string Tryd.underlying9 g0
    obtain ⟨i1, c1, x1⟩ := DataW.trod_bool Tryd.underlying4 g1
    obtain ⟨t, ⟨c2, hin⟩, x2⟩ := open_item rfl g2
    obtain rfl : v0 = .string b0 := by simpa using c0
    obtain rfl : v1 = .bool i1 := by simpa using c1
    refine ⟨⟨b0, i1, t⟩, ⟨?_, hin⟩, ?_⟩
    · simp only [imC, List.cons.injEq, and_true] at c2
      obtain ⟨rfl, rfl, rfl, rfl, rfl⟩ := c2
      rfl
    · rw [hx, x0, x1, x2]; rfl

theorem open_eds {fuel : Nat} {sa : Option Addr} {len cap : Nat} {x : DataW H × List MemPlace} (h : DataW.trod enc Tryd.prog w base spare held fuel 23 [.slice sa len cap] = some x) (hlt : ∀ y ∈ x.2, y.block < w.heap.size) :
    ∃ l : List Em, Eds w (.slice sa len cap) l ∧ (∀ t ∈ l, EmIn t) ∧ (l = [] ∨ ∃ elems sp, x.1 = .slice elems sp ∧ l.length = elems.length ∧ ∀ t ∈ l, edD H t ∈ elems) := by
  obtain ⟨l, hl, h1, h2, h3⟩ := open_rw (R := fun _ (t : Em) c => c = emC t ∧ EmIn t) (q := fun t d => d = edD H t) Tryd.underlying23 ce_ed (by omega) (fun n cs x hc hx _ => by
    obtain ⟨t, a, b⟩ := open_edit hc hx
    exact ⟨t, a, b⟩) h hlt
  have hin : ∀ t ∈ l, EmIn t := by
    obtain ⟨hat⟩ := hl
    rcases hat with ⟨_, hn⟩ | ⟨bk, o, cp, _, _, _, hc⟩
    · rw [hn]; exact fun t ht => absurd ht List.not_mem_nil
    · intro t ht
      obtain ⟨j, hj, rfl⟩ := List.getElem_of_mem ht
      obtain ⟨c, _, ⟨_, q⟩, _⟩ := hc j _ (List.getElem?_eq_getElem hj)
      exact q
  refine ⟨l, ?_, hin, h3.imp id fun ⟨elems, sp, a, b, c⟩ => ⟨elems, sp, a, b, fun t ht => ?_⟩⟩
  · obtain ⟨hat⟩ := hl
    rcases hat with ⟨⟨a, c, e⟩, hn⟩ | ⟨bk, o, cp, e, hle, hbk, hc⟩
    · cases e
      exact ⟨.inl ⟨⟨_, _, rfl⟩, hn⟩, _, _, _, rfl, h1, h2⟩
    · cases e
      refine ⟨.inr ⟨bk, o, cap, rfl, hbk, fun j t hj r u hu => ?_⟩, _, _, _, rfl, h1, h2⟩
      obtain ⟨cs, _, ⟨rfl, _⟩, q⟩ := hc j t hj
      exact q r u hu
  · obtain ⟨d, hd, rfl⟩ := c t ht
    exact hd

theorem sized_eds {ts : List TypeId} {ds : List (DataW H)} (h : (DataW.weightsEach Tryd.prog ts ds).all (· ≤ reachBytes) = true) {j : Nat} {l : List Em} {elems sp : List (DataW H)} (ht : ts[j]? = some 23) (hd : ds[j]? = some (.slice elems sp)) (hm : ∀ t ∈ l, edD H t ∈ elems) (hin : ∀ t ∈ l, EmIn t) : ∀ t ∈ l, t.Ok := by
  intro t htl
  obtain ⟨f0, f1, f2, hu, e0, _, e1, _, e2, _⟩ := ed_fields
  obtain ⟨g0, g1, g2, g3, g4, hv, k0, _, k1, _, k2, _, k3, _, k4, _⟩ := it_fields
  have hall : ∀ n ∈ (edD H t).weights Tryd.prog 31, n ≤ reachBytes := fun n hn => by
    have := List.all_eq_true.1 h n (DataW.weights_mem_each ht hd n (by
      rw [DataW.weights, Tryd.underlying23]
      exact List.mem_cons_of_mem _ (List.mem_append_left _ (weights_all (hm t htl) n hn))))
    simpa using this
  have hp := hall t.path.data.toList.length (by simp [edD, itD, DataW.weights, DataW.weightsEach, hu])
  have hi := hall t.item.path.data.toList.length (by simp [edD, itD, DataW.weights, DataW.weightsEach, hu, e2, hv])
  have hb := hall t.item.bytes.data.toList.length (by simp [edD, itD, DataW.weights, DataW.weightsEach, hu, e2, hv])
  simp only [reachBytes] at hp hi hb
  exact ⟨by rw [Lib.size_eq]; exact hp, ⟨by rw [Lib.size_eq]; exact hi, by rw [Lib.size_eq]; exact hb, (hin t htl).2.2⟩⟩

theorem bulk_eds {l : List Em} {elems : List (DataW H)} (h : ∀ t ∈ l, edD H t ∈ elems) : ∀ x ∈ l, x.path.size ≤ Rows.uptoBulkAll elems ∧ x.item.path.size ≤ Rows.uptoBulkAll elems ∧ x.item.bytes.size ≤ Rows.uptoBulkAll elems := fun x hx => by
  have h1 := in_bulk (h x hx)
  have h2 : x.path.data.toList.length + (x.item.path.data.toList.length + x.item.bytes.data.toList.length) ≤ Rows.uptoBulk (edD H x) := by
    simp only [edD, itD, Rows.uptoBulk, Rows.uptoBulkAll]
    omega
  rw [Lib.size_eq, Lib.size_eq, Lib.size_eq]
  omega

end

end Go.Proofs.YthpcbbkpjggjbaaDoor

namespace Go.Proofs.YthpcbbkpjggjbaaDoor
open Go.RowKit

theorem first_laid : Rows.laid_unicode_utf8_first = Lib.firstData := by kernel_rfl
theorem accept_laid : (Rows.laid_unicode_utf8_acceptRanges : DataW Unit) = Lib.acceptData := by kernel_rfl
theorem laid_plain {P : Program} {l : List (String × DataW Unit)} {W : World} (h : laidMetH P l W) (hp : (l.filter fun x => x.2.handleName?.isSome) = []) : laidMet P l W := by
  unfold laidMetH at h
  rw [hp] at h
  exact h

/-- the two tables, off what the rows list -/
theorem tabs_of {W : World} (hL : laidMetH Tryd.prog Rows.deltaDiffsRow.laid W) : Tabs W := by
  have hM := laid_plain hL (by kernel_rfl)
  refine utf8Tabs_of_readsT (P := Tryd.prog) (ρ := Tryd.laysValid_ren) (U8Types.of196 Tryd.laysValid) ⟨by kernel_rfl, by kernel_rfl, by kernel_rfl, by kernel_rfl, by kernel_rfl, by kernel_rfl, by kernel_rfl⟩ ?_ ?_
  · rw [← first_laid]
    exact Lib.laidMet.reads hM (by simp [Rows.deltaDiffsRow])
  · rw [← accept_laid]
    exact Lib.laidMet.reads hM (by simp [Rows.deltaDiffsRow])
/-- a text of a list is no longer than the list's bulk -/
theorem bulk_strs {H : Type} : ∀ (l : List ByteArray), ∀ s ∈ l, s.size ≤ Rows.uptoBulkAll (ChangeShapes.strs l : List (DataW H))
  | [], s, hs => (List.not_mem_nil hs).elim
  | t :: l, s, hs => by
    show _ ≤ Rows.uptoBulkAll (DataW.lit (.string t.data.toList) :: (ChangeShapes.strs l : List (DataW H)))
    rw [Rows.uptoBulkAll, Rows.uptoBulk]
    rcases List.mem_cons.1 hs with rfl | hs
    · rw [Lib.size_eq]; omega
    · have := bulk_strs (H := H) l s hs; omega
end Go.Proofs.YthpcbbkpjggjbaaDoor
