/-
  What MendErr of the document's answer (package lumref) answers.
-/
import Derived.Test.YtoeohnknpbdgdaaShThere
namespace Go.Proofs.Ytoeohnknpbdgdaa
open Go.RowKit
set_option maxRecDepth 4000

theorem szs_append (m : Nat) : ∀ (a b : List ByteArray), szs m a = 0 → szs m (a ++ b) = szs m b
  | [], _, _ => rfl
  | s :: a, b, h => by
    rw [szs] at h
    rw [List.cons_append, szs]
    split at h
    · omega
    · next h1 =>
      rw [if_neg h1]
      split at h
      · omega
      · next h2 => rw [if_neg h2]; exact szs_append m a b h
theorem th_front (l : List Shd) (k : Nat) : ∀ d, ∃ t, th l (k + d) = th l k ++ t
  | 0 => ⟨[], (List.append_nil _).symm⟩
  | d + 1 => by
    obtain ⟨t, ht⟩ := th_front l k d
    rw [← Nat.add_assoc, th]
    split
    · exact ⟨t ++ [(l.getD (k + d) Shd.none).bytes], by rw [ht, List.append_assoc]⟩
    · exact ⟨t, ht⟩
/-- up to k nothing is wrong: the first that is there, and that all have its length -/
structure Upto (l : List Shd) (k : Nat) (first : Int) : Prop where
  ok : szs ((th l l.length).getD 0 ByteArray.empty).size (th l k) = 0
  none : first = -1 → th l k = []
  some_ : first ≠ -1 → ∃ f : Nat, first = f ∧ f < k ∧ (l.getD f Shd.none).bytes.size = ((th l l.length).getD 0 ByteArray.empty).size
  rng : -1 ≤ first ∧ first < k
theorem upto_zero (l : List Shd) : Upto l 0 (-1) := ⟨rfl, fun _ => rfl, fun h => absurd rfl h, by omega⟩
theorem upto_lost {l : List Shd} {k : Nat} {first : Int} (h : Upto l k first) (hk : (l.getD k Shd.none).has = false) : Upto l (k + 1) first := by
  have e : th l (k + 1) = th l k := by rw [th, hk]; rfl
  refine ⟨by rw [e]; exact h.ok, fun h1 => by rw [e]; exact h.none h1, fun h1 => ?_, by have := h.rng; omega⟩
  obtain ⟨f, h2, h3, h4⟩ := h.some_ h1
  exact ⟨f, h2, by omega, h4⟩
/-- what is there, and what follows -/
theorem th_split {l : List Shd} {k : Nat} (hk : k < l.length) (ht : (l.getD k Shd.none).has = true) : ∃ t, th l l.length = th l k ++ ((l.getD k Shd.none).bytes :: t) := by
  obtain ⟨t, e⟩ := th_front l (k + 1) (l.length - (k + 1))
  rw [show k + 1 + (l.length - (k + 1)) = l.length from by omega] at e
  refine ⟨t, ?_⟩
  rw [e, th, if_pos ht, List.append_assoc]
  rfl
/-- the length of the first: that of this one, where it is the first -/
theorem upto_first {l : List Shd} {k : Nat} (h : Upto l k (-1)) (hk : k < l.length) (ht : (l.getD k Shd.none).has = true) : (l.getD k Shd.none).bytes.size = ((th l l.length).getD 0 ByteArray.empty).size := by
  obtain ⟨t, e⟩ := th_split hk ht
  rw [e, h.none rfl]
  rfl
theorem upto_large {l : List Shd} {k : Nat} {first : Int} (h : Upto l k first) (hk : k < l.length) (ht : (l.getD k Shd.none).has = true) (hs : 4096 < (l.getD k Shd.none).bytes.size) : sizes (th l l.length) = 2 := by
  obtain ⟨t, e⟩ := th_split hk ht
  unfold sizes
  have := h.ok
  generalize ((th l l.length).getD 0 ByteArray.empty).size = m at *
  rw [e, szs_append m _ _ this, szs, if_pos hs]
theorem upto_form {l : List Shd} {k : Nat} {first : Int} (h : Upto l k first) (hk : k < l.length) (ht : (l.getD k Shd.none).has = true) (hs : ¬ 4096 < (l.getD k Shd.none).bytes.size) (hf : (l.getD k Shd.none).bytes.size ≠ ((th l l.length).getD 0 ByteArray.empty).size) : sizes (th l l.length) = 4 := by
  obtain ⟨t, e⟩ := th_split hk ht
  unfold sizes
  have := h.ok
  generalize ((th l l.length).getD 0 ByteArray.empty).size = m at *
  rw [e, szs_append m _ _ this, szs, if_neg hs, if_pos hf]
theorem upto_more {l : List Shd} {k : Nat} {first : Int} (h : Upto l k first) (ht : (l.getD k Shd.none).has = true) (hs : ¬ 4096 < (l.getD k Shd.none).bytes.size) (hf : (l.getD k Shd.none).bytes.size = ((th l l.length).getD 0 ByteArray.empty).size) : Upto l (k + 1) (if first = -1 then k else first) := by
  have e : th l (k + 1) = th l k ++ [(l.getD k Shd.none).bytes] := by rw [th, if_pos ht]
  have hr := h.rng
  refine ⟨?_, fun h1 => ?_, fun h1 => ?_, ?_⟩
  · rw [e, szs_append _ _ _ h.ok, szs, if_neg hs, if_neg (by omega)]; rfl
  · split at h1 <;> omega
  · by_cases h2 : first = -1
    · rw [if_pos h2]; exact ⟨k, rfl, by omega, hf⟩
    · rw [if_neg h2]
      obtain ⟨f, a1, a2, a3⟩ := h.some_ h2
      exact ⟨f, a1, by omega, a3⟩
  · split <;> omega

set_option maxHeartbeats 4000000 in
theorem rmendErr_any (v : Value) (l : List Shd) (n : Int) (w : World) (h : Sx w v l) :
    Calls Try.prog 11 #[v, .int .i64 n] w fun e w' => e = .returned (.int .i64 (mErr l n : Nat)) ∧ Below w.heap.size w w' := by
  obtain ⟨a, c, rfl, hc1, hc2⟩ := h.slice
  by_cases hw : 1 ≤ n ∧ n ≤ 16 ∧ n < l.length ∧ (l.length : Int) ≤ n + 8
  · obtain ⟨g1, g2, g3, g4⟩ := hw
    have HE : Hid (mErr l n = if sizes (th l l.length) ≠ 0 then sizes (th l l.length) else if ((th l l.length).length : Int) < n then 7 else 0) := by
      show _ = _
      unfold mErr
      rw [show wi n 16 = true from decide_eq_true (by omega), show wi ((l.length : Int) - n) 8 = true from decide_eq_true (by omega)]
      rfl
    have HX : Hid (Sx w (.slice a l.length c) l) := h
    have HR : Hid (∀ k first, Upto l k first → k < l.length → (l.getD k Shd.none).has = true → 4096 < (l.getD k Shd.none).bytes.size → mErr l n = 2) := fun k first h1 h2 h3 h4 => by
      have := upto_large h1 h2 h3 h4
      rw [HE.out, this]; rfl
    have HR4 : Hid (∀ k first, Upto l k first → k < l.length → (l.getD k Shd.none).has = true → ¬ 4096 < (l.getD k Shd.none).bytes.size → (l.getD k Shd.none).bytes.size ≠ ((th l l.length).getD 0 ByteArray.empty).size → mErr l n = 4) := fun k first h1 h2 h3 h4 h5 => by
      have := upto_form h1 h2 h3 h4 h5
      rw [HE.out, this]; rfl
    have HEnd : Hid (∀ first, Upto l l.length first → mErr l n = if ((th l l.length).length : Int) < n then 7 else 0) := fun first h1 => by
      rw [HE.out, if_neg]
      have := h1.ok
      show ¬ sizes (th l l.length) ≠ 0
      unfold sizes
      omega
    have HU0 : Hid (Upto l 0 (-1)) := upto_zero l
    clear h HE
    obtain ⟨N, hN⟩ : ∃ N, N = l.length := ⟨_, rfl⟩
    have HN : Hid (N = l.length) := hN
    rw [← hN] at HX g3 g4 ⊢
    clear hN hc1
    generalize mErr l n = Z at *
    go_enter Try.func11, Try.ntmps11
    go_wp2_with fail
    go_loopw [5, 6, 30] (fun fv mv i wr => ∃ (k : Nat) (first : Int), k ≤ N ∧ i = .int .i64 k ∧ fv = .int .i64 first ∧ -1 ≤ first ∧ first < k ∧ mv = .int .i64 ((th l k).length : Nat) ∧ Hid (Upto l k first) ∧ Hid (Below w.heap.size w wr)) (fun _ _ i _ => N - (intOf i).toNat)
    case atStart => exact ⟨0, -1, by omega, rfl, rfl, by omega, by omega, rfl, HU0, Below.refl _ _⟩
    case round =>
      clear HU0
      obtain ⟨k, first, hk, rfl, rfl, hr1, hr2, rfl, HU, HB⟩ := hrel
      have hle := th_le l k
      by_cases hlt : k < N
      · have hXr := HX.out.below HB.out
        have hkl : k < l.length := by rw [← HN.out]; exact hlt
        obtain ⟨bk, o, rfl, hbk, c0, c1⟩ := hXr.get k hkl
        have HT : Hid (th l (k + 1) = if (l.getD k Shd.none).has then th l k ++ [(l.getD k Shd.none).bytes] else th l k) := rfl
        have hB0 : ∀ ob, Below wr.heap.size wr (wr.alloc ob) := fun ob => (Below.refl _ _).alloc (Nat.le_refl _) _
        have HB0 : Hid (∀ ob, Below w.heap.size w (wr.alloc ob)) := fun ob => HB.out.trans ((hB0 ob).mono HB.out.size)
        cases hh : (l.getD k Shd.none).has with
        | false =>
          have HUn : Hid (Upto l (k + 1) first) := upto_lost HU.out hh
          have HT1 : Hid (th l (k + 1) = th l k) := by have := HT.out; rwa [hh] at this
          rw [hh] at c0
          generalize (l.getD k Shd.none).bytes = sk at *
          clear HT HR HR4 HEnd HU HB hB0 hh
          generalize hTN : (th l k).length = tn at *
          have HTN : Hid ((th l (k + 1)).length = tn) := by rw [HT1.out]; exact hTN
          clear hTN
          go_wp2_with fail
          go_roundw
          case rel => exact ⟨k + 1, first, by omega, by go_num, rfl, by omega, by omega, by rw [HTN.out], HUn, HB0.out _⟩
          case measure => simp only [intOf]; omega
        | true =>
          rw [hh] at c0
          have hT1 : (th l (k + 1)).length = (th l k).length + 1 := by have := HT.out; rw [hh, if_pos rfl] at this; rw [this, List.length_append]; rfl
          have HT1 : Hid ((th l (k + 1)).length = (th l k).length + 1) := hT1
          clear hT1 HT
          by_cases hlg : 4096 < (l.getD k Shd.none).bytes.size
          · have HZ : Hid (Z = 2) := HR.out k first HU.out hkl hh hlg
            generalize (l.getD k Shd.none).bytes = sk at *
            clear HR HR4 HEnd HU HB hB0 hh HT1
            generalize (th l k).length = tn at *
            go_wp2_with fail
            go_ret
            exact ⟨by rw [HZ.out]; rfl, HB0.out _⟩
          · have HM := upto_more HU.out hh hlg
            have H4 := HR4.out k first HU.out hkl hh hlg
            by_cases hfm : first = -1
            · have hsz := upto_first (by rw [← hfm]; exact HU.out) hkl hh
              have HUn : Hid (Upto l (k + 1) k) := by have := HM hsz; rwa [if_pos hfm] at this
              obtain ⟨W0, hW0⟩ : ∃ W0, W0 = wr.alloc (.cells #[.bool true, .string (l.getD k Shd.none).bytes] 33) := ⟨_, rfl⟩
              have x1 : W0.cell? ⟨wr.heap.size, 1, none⟩ = some (.string (l.getD k Shd.none).bytes) := by rw [hW0]; simp
              have y1 : W0.cell? ⟨bk, o + k * 2 + 1, none⟩ = some (.string (l.getD k Shd.none).bytes) := by rw [hW0]; exact ((hB0 _).cell (p := ⟨bk, o + k * 2 + 1, none⟩) hbk).trans c1
              have HBW : Hid (Below w.heap.size w W0.drew) := by rw [hW0]; exact (HB0.out _).drew
              generalize (l.getD k Shd.none).bytes = sk at *
              subst hfm
              clear HR HR4 HEnd HU HB hB0 hh HM H4 hsz hXr HB0
              generalize (th l k).length = tn at *
              go_upto_region 8 with fail
              rw [← hW0]
              clear hW0 c0 c1
              go_wp2_with fail
              go_region
              all_goals
                go_wp2_with fail
                go_roundw
                case rel => exact ⟨k + 1, k, by omega, by go_num, rfl, by omega, by omega, by rw [HT1.out]; go_num, HUn, HBW⟩
                case measure => simp only [intOf]; omega
            · obtain ⟨f, rfl, hfk, hfs⟩ := HU.out.some_ hfm
              obtain ⟨bk2, o2, e2, hbk2, d0, d1⟩ := hXr.get f (by omega)
              rw [Option.some.injEq, Addr.mk.injEq] at e2
              obtain ⟨rfl, rfl, e3⟩ := e2
              clear e3
              rw [← hfs] at HM H4
              obtain ⟨W0, hW0⟩ : ∃ W0, W0 = wr.alloc (.cells #[.bool true, .string (l.getD k Shd.none).bytes] 33) := ⟨_, rfl⟩
              have x1 : W0.cell? ⟨wr.heap.size, 1, none⟩ = some (.string (l.getD k Shd.none).bytes) := by rw [hW0]; simp
              have y1 : W0.cell? ⟨bk, o + f * 2 + 1, none⟩ = some (.string (l.getD f Shd.none).bytes) := by rw [hW0]; exact ((hB0 _).cell (p := ⟨bk, o + f * 2 + 1, none⟩) hbk).trans d1
              have HBW : Hid (Below w.heap.size w W0.drew) := by rw [hW0]; exact (HB0.out _).drew
              generalize (l.getD k Shd.none).bytes = sk at *
              generalize (l.getD f Shd.none).bytes = sf at *
              have hf0 : ¬ (f : Int) < 0 := by omega
              have hfN : f < N := by omega
              by_cases hsz : sk.size = sf.size
              · have hq : ((sk.size : Int) != (sf.size : Int)) = false := by rw [bne_eq_false_iff_eq]; omega
                have HUn : Hid (Upto l (k + 1) f) := by have := HM hsz; rwa [if_neg hfm] at this
                clear HR HR4 HEnd HU HB hB0 hh HM H4 hsz hXr HB0 hfs d0 d1 hfm
                generalize (th l k).length = tn at *
                go_upto_region 8 with fail
                rw [← hW0]
                clear hW0 c0 c1
                go_wp2_with fail
                go_region
                all_goals
                  go_wp2_with fail
                  go_roundw
                  case rel => exact ⟨k + 1, f, by omega, by go_num, rfl, by omega, by omega, by rw [HT1.out]; go_num, HUn, HBW⟩
                  case measure => simp only [intOf]; omega
              · have hq : ((sk.size : Int) != (sf.size : Int)) = true := by rw [bne_iff_ne]; omega
                have HZ : Hid (Z = 4) := H4 hsz
                clear HR HR4 HEnd HU HB hB0 hh HM H4 hsz hXr HB0 hfs d0 d1 hfm HT1
                generalize (th l k).length = tn at *
                go_upto_region 8 with fail
                rw [← hW0]
                clear hW0 c0 c1
                go_wp2_with fail
                go_region
                all_goals
                  go_wp2_with fail
                  go_ret
                  exact ⟨by rw [HZ.out]; rfl, HBW.out⟩
      · obtain rfl : k = N := by omega
        have hE := HEnd.out first (by rw [← HN.out]; exact HU.out)
        rw [← HN.out] at hE
        clear HR HR4 HEnd HU
        generalize (th l k).length = tn at *
        by_cases g5 : (tn : Int) < n
        · have HZ : Hid (Z = 7) := by rwa [if_pos g5] at hE
          clear hE
          go_wp2_with fail
          go_ret
          exact ⟨by rw [HZ.out]; rfl, HB.out⟩
        · have HZ : Hid (Z = 0) := by rwa [if_neg g5] at hE
          clear hE
          go_wp2_with fail
          go_ret
          exact ⟨by rw [HZ.out]; rfl, HB.out⟩
  · have HE : Hid (mErr l n = 1) := by
      show _ = _
      unfold mErr wi
      rw [if_neg]
      simp
      omega
    rw [HE.out]
    clear HE h
    generalize l.length = N at *
    by_cases g1 : n < 1
    · clear hw
      go_enter Try.func11, Try.ntmps11
      go_wp2_with fail
      go_ret
      exact ⟨rfl, Below.refl _ _⟩
    · by_cases g2 : 16 < n
      · clear hw
        go_enter Try.func11, Try.ntmps11
        go_wp2_with fail
        go_ret
        exact ⟨rfl, Below.refl _ _⟩
      · by_cases g3 : (N : Int) ≤ n
        · clear hw
          go_enter Try.func11, Try.ntmps11
          go_wp2_with fail
          go_ret
          exact ⟨rfl, Below.refl _ _⟩
        · have g4 : n + 8 < (N : Int) := by omega
          clear hw
          go_enter Try.func11, Try.ntmps11
          go_wp2_with fail
          go_ret
          exact ⟨rfl, Below.refl _ _⟩
end Go.Proofs.Ytoeohnknpbdgdaa
