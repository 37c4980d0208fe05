/-
  What settle and Merge of package index answer.
-/
import Derived.Test.YtllioidjelgafabPlCat
import Derived.Test.YtllioidjelgafabPlChk
namespace Go.Proofs.Ytllioidjelgafab
open Go.RowKit
set_option maxRecDepth 4000

/-- places in new memory -/
def PlOut (w w' : World) (v : Value) (out : List Ix.Pl) : Prop := ∃ l : List Plc, ps l = out ∧ Px w' v l ∧ (∀ a n c, v = .slice (some a) n c → w.heap.size ≤ a.block) ∧ Below w.heap.size w w'
theorem compact_small (a : Option Addr) (n c : Nat) (fv : Value) (w : World) (hn : n < 2) :
    Calls Try.prog 32 #[.slice a n c, fv] w fun e w' => e = .returned (.slice a n c) ∧ w' = w := by
  have h2 : decide ((n : Int) < 2) = true := decide_eq_true (by omega)
  go_enter Try.func32, Try.ntmps32
  go_wp2_with fail
  go_ret
  exact ⟨rfl, rfl⟩
theorem fsts_one (t : Plc) : fsts none [t] = [t] := rfl
/-- what is left -/
def StOut (base : Nat) (w w' : World) (v : Value) (out : List Plc) : Prop := Px w' v out ∧ (∀ a n c, v = .slice (some a) n c → base ≤ a.block) ∧ Below base w w'
theorem Kept.off {g base : Nat} {w w' : World} (h : Kept (fun b => b ≠ g) w w') (hb : base ≤ g) (hg : g < w.heap.size) : Below base w w' := h.below (by omega) fun k hk => by show k ≠ g; omega

set_option maxHeartbeats 1000000 in
theorem settle_any (v : Value) (l : List Plc) (w : World) (base : Nat) (h : w.ownsRow base 29 12 v l.length (rowR plC l)) (hl : l.length ≤ 1000) :
    Calls Try.prog 22 #[v] w fun e w' => ∃ v', e = .returned v' ∧ StOut base w w' v' (stl l) := by
  by_cases h0 : l.length = 0
  · have hn : l = [] := List.length_eq_zero_iff.1 h0
    subst hn
    obtain ⟨a, c, hv⟩ : ∃ a c, v = .slice a 0 c := by
      rcases h.2 with ⟨rfl, _⟩ | ⟨g, cap, cur, rfl, _⟩
      · exact ⟨_, _, rfl⟩
      · exact ⟨_, _, rfl⟩
    have HP : Hid (Px w v []) := Rx.of_own (l := ([] : List Plc)) plC_length h
    have HB : Hid (∀ a n c, v = .slice (some a) n c → base ≤ a.block) := fun a n c e => by
      rcases h.2 with ⟨rfl, _⟩ | ⟨g, cap, cur, rfl, hb, _⟩
      · simp at e
      · rw [Value.slice.injEq] at e
        obtain ⟨rfl, _⟩ := Option.some.inj e.1
        exact hb
    subst hv
    have hs := fun W => sort_none a c (.func (.func 31) #[] #[]) W
    have hc := fun W => compact_small a 0 c (.func (.func 33) #[] #[]) W (by omega)
    clear h
    go_enter Try.func22, Try.ntmps22
    go_wp2_with (first | (go_at_call 30; refine (hs _).mono ?_; rintro e u ⟨rfl, hu⟩; obtain rfl := hu.symm) | (go_at_call 32; refine (hc _).mono ?_; rintro e u ⟨rfl, hu⟩; obtain rfl := hu.symm))
    go_ret
    exact ⟨.slice a 0 c, rfl, by rw [show stl [] = [] from by unfold stl srt; rw [List.mergeSort_nil]; rfl]; exact HP.out, HB.out, Below.refl _ _⟩
  · obtain ⟨g, cap, hv⟩ : ∃ g cap, v = .slice (some ⟨g, 0, none⟩) l.length cap := by
      rcases h.2 with ⟨_, h0'⟩ | ⟨g, cap, cur, rfl, _⟩
      · exact absurd h0' h0
      · exact ⟨_, _, rfl⟩
    subst hv
    obtain ⟨hrw, hcap, hcap2, hbase⟩ := Rw.of_own h
    have hs := sort_any g cap l w hrw hl
    have hz := hrw.lt
    have HBS : Hid (base ≤ g) := hbase
    have HLS : Hid ((srt l).length = l.length) := srt_length l
    clear h hrw hbase
    by_cases h2 : l.length < 2
    · have hc := fun W => compact_small (some ⟨g, 0, none⟩) l.length cap (.func (.func 33) #[] #[]) W h2
      have HF : Hid (stl l = srt l) := by
        show _ = _
        unfold stl
        match hsl : srt l, (show (srt l).length = 1 from by rw [HLS.out]; omega) with
        | [t], _ => rfl
      go_enter Try.func22, Try.ntmps22
      go_wp2_with (first | (go_at_call 30; refine hs.mono ?_; rintro e u ⟨rfl, hr, hk⟩) | (go_at_call 32; refine (hc _).mono ?_; rintro e u2 ⟨rfl, hu⟩; obtain rfl := hu.symm))
      go_ret
      refine ⟨.slice (some ⟨g, 0, none⟩) l.length cap, rfl, ?_, ?_, hk.off HBS.out hz⟩
      · rw [HF.out, ← HLS.out]
        exact hr.px (by rw [HLS.out]; exact hcap) hcap2
      · intro a n c e
        rw [Value.slice.injEq] at e
        obtain ⟨rfl, _⟩ := Option.some.inj e.1
        exact HBS.out
    · have hc := fun W hW => compact_of g cap (srt l) W hW (by rw [srt_length]; exact hl) (by rw [srt_length]; exact hcap) hcap2 (by rw [srt_length]; omega)
      rw [srt_length] at hc
      go_enter Try.func22, Try.ntmps22
      go_wp2_with (first | (go_at_call 30; refine hs.mono ?_; rintro e u ⟨rfl, hr, hk⟩) | (go_at_call 32; refine (hc _ hr).mono ?_; rintro e u2 ⟨v2, rfl, hv2, hr2, hk2⟩))
      subst hv2
      go_ret
      refine ⟨.slice (some ⟨g, 0, none⟩) (fsts none (srt l)).length cap, rfl, ?_, ?_, (hk.trans hk2).off HBS.out hz⟩
      · exact hr2.px (by have := stl_length l; unfold stl at this; omega) hcap2
      · intro a n c e
        rw [Value.slice.injEq] at e
        obtain ⟨rfl, _⟩ := Option.some.inj e.1
        exact HBS.out

theorem px_nil (w : World) : Px w (.slice none 0 0) [] := ⟨.inl ⟨⟨_, _, rfl⟩, rfl⟩, _, _, _, rfl, Nat.le_refl _, by omega⟩
theorem PlOut.nil {w w' : World} (h : Below w.heap.size w w') : PlOut w w' (.slice none 0 0) [] := ⟨[], rfl, px_nil w', fun a n c e => by simp at e, h⟩

set_option maxHeartbeats 2000000 in
theorem merge_any (v u : Value) (a b : List Plc) (w : World) (h : Px w v a) (k : Px w u b) (hl : a.length ≤ 140737488351232) (hm : b.length ≤ 140737488351232) :
    Calls Try.prog 9 #[v, u] w fun e w' => ∃ x, e = .returned (.tuple #[x, .int .i64 (Ix.merge (ps a) (ps b)).2]) ∧ PlOut w w' x (Ix.merge (ps a) (ps b)).1 := by
  obtain ⟨sa, ca, rfl, ha1, ha2⟩ := h.slice
  obtain ⟨sb, cb, rfl, hb1, hb2⟩ := k.slice
  have hca : ∀ W, Px W (.slice sa a.length ca) a → Calls Try.prog 18 #[.slice sa a.length ca] W fun e w' => e = .returned (.int .i64 (Ix.check (ps a))) ∧ Below W.heap.size W w' := fun W hW => check_any _ a W hW hl
  have hcb : ∀ W, Px W (.slice sb b.length cb) b → Calls Try.prog 18 #[.slice sb b.length cb] W fun e w' => e = .returned (.int .i64 (Ix.check (ps b))) ∧ Below W.heap.size W w' := fun W hW => check_any _ b W hW hm
  have HA : Hid (Px w (.slice sa a.length ca) a) := h
  have HK : Hid (Px w (.slice sb b.length cb) b) := k
  clear h k
  by_cases ea : Ix.check (ps a) = 0
  · by_cases eb : Ix.check (ps b) = 0
    · have HM : Hid (Ix.merge (ps a) (ps b) = if 400 < (Ix.puts (ps a) (ps b)).length then ([], 2) else (Ix.puts (ps a) (ps b), 0)) := Ix.merge_is ea eb
      have la : a.length ≤ 400 := by have := (Ix.check_ok.1 ea).1; rwa [List.length_map] at this
      have lb : b.length ≤ 400 := by have := (Ix.check_ok.1 eb).1; rwa [List.length_map] at this
      have HT : Hid (ps (stl (a ++ b)) = Ix.puts (ps a) (ps b)) := stl_two (Ix.check_ok.1 ea).2.2
      rw [ea] at hca
      rw [eb] at hcb
      clear ea eb
      go_enter Try.func9, Try.ntmps9
      go_upto_region 4 with (go_at_call 18; refine (hca _ HA.out).mono ?_; rintro e w1 ⟨rfl, hb1'⟩)
      have HA1 : Hid (Px w1 (.slice sa a.length ca) a) := HA.out.below hb1'
      have HK1 : Hid (Px w1 (.slice sb b.length cb) b) := HK.out.below hb1'
      have HB1 : Hid (Below w.heap.size w w1) := hb1'
      clear hb1' HA HK
      go_upto_region 7 with (go_at_call 18; refine (hcb _ HK1.out).mono ?_; rintro e w2 ⟨rfl, hb2'⟩)
      have HA2 : Hid (Px w2 (.slice sa a.length ca) a) := HA1.out.below hb2'
      have HK2 : Hid (Px w2 (.slice sb b.length cb) b) := HK1.out.below hb2'
      have HB2 : Hid (Below w.heap.size w w2) := HB1.out.trans (hb2'.mono HB1.out.size)
      clear hb2' HA1 HK1 HB1 hca hcb
      have hbx : Below w2.heap.size w2 (w2.alloc (.cells #[.slice sa a.length ca, .slice sb b.length cb] 22)) := (Below.refl _ w2).alloc (Nat.le_refl _) _
      have hcat := concatp_any w2.heap.size 2 [(.slice sa a.length ca, a), (.slice sb b.length cb, b)] (w2.alloc (.cells #[.slice sa a.length ca, .slice sb b.length cb] 22)) (by show w2.heap.size < (w2.heap.push _).size; simp) (by simp)
        (fun j hj => by
          rw [cell_of_row _ w2.heap.size j _ _ _ (heap_alloc_new w2 _)]
          match j, hj with
          | 0, _ => rfl
          | 1, _ => rfl)
        (fun j hj => by
          match j, hj with
          | 0, _ => exact HA2.out.below hbx
          | 1, _ => exact HK2.out.below hbx)
        (by simp [catP]; omega)
      have ecat : catP [(.slice sa a.length ca, a), (.slice sb b.length cb, b)] [((.slice sa a.length ca : Value), a), (.slice sb b.length cb, b)].length = a ++ b := by simp [catP]
      rw [ecat] at hcat
      have hcat' : Calls Try.prog 23 #[.slice (some ⟨w2.heap.size, 0, none⟩) 2 2] (w2.alloc (.cells #[.slice sa a.length ca, .slice sb b.length cb] 22)) _ := hcat
      clear hcat ecat HA2 HK2
      have hst := fun v W base hW => settle_any v (a ++ b) W base hW (by rw [List.length_append]; omega)
      have HBX : Hid (Below w.heap.size w (w2.alloc (.cells #[.slice sa a.length ca, .slice sb b.length cb] 22))) := HB2.out.alloc HB2.out.size _
      have HSX : Hid (w.heap.size ≤ (w2.alloc (.cells #[.slice sa a.length ca, .slice sb b.length cb] 22)).heap.size) := HBX.out.size
      clear hbx
      go_wp2_with (first | (go_at_call 23; refine hcat'.mono ?_; rintro e w3 ⟨v3, rfl, o3, hb3⟩) | (go_at_call 22; refine (hst _ _ _ o3).mono ?_; rintro e w4 ⟨v4, rfl, hp4, hn4, hb4⟩; obtain ⟨s4, c4, hv4, hv41, hv42⟩ := hp4.slice; subst hv4))
      all_goals
        have HB3 := HBX.out.trans (hb3.mono HSX.out)
        have HB4 : Hid (Below w.heap.size w w4) := HB3.trans (hb4.mono HSX.out)
        have hlen : (Ix.puts (ps a) (ps b)).length = (stl (a ++ b)).length := by rw [← HT.out, List.length_map]
      · go_ret2
        have hgt : 400 < (Ix.puts (ps a) (ps b)).length := by rw [hlen]; omega
        exact ⟨.slice none 0 0, by rw [HM.out, if_pos hgt]; rfl, by rw [HM.out, if_pos hgt]; exact PlOut.nil HB4.out⟩
      · go_ret2
        have hgt : ¬ 400 < (Ix.puts (ps a) (ps b)).length := by rw [hlen]; omega
        refine ⟨.slice s4 (stl (a ++ b)).length c4, by rw [HM.out, if_neg hgt]; rfl, ?_⟩
        rw [HM.out, if_neg hgt]
        exact ⟨stl (a ++ b), HT.out, hp4, fun x n c e => Nat.le_trans HSX.out (hn4 x n c e), HB4.out⟩
    · have HM : Hid (Ix.merge (ps a) (ps b) = ([], Ix.check (ps b))) := by show _ = _; unfold Ix.merge; rw [if_neg (fun k => k ea), if_pos eb]
      obtain ⟨er, her⟩ : ∃ er, Ix.check (ps b) = er := ⟨_, rfl⟩
      rw [her] at hcb eb HM
      rw [ea] at hca
      have he2 : (er == 0) = false := by simpa using eb
      clear her ea eb
      go_enter Try.func9, Try.ntmps9
      go_upto_region 4 with (go_at_call 18; refine (hca _ HA.out).mono ?_; rintro e w1 ⟨rfl, hb1'⟩)
      have HK1 : Hid (Px w1 (.slice sb b.length cb) b) := HK.out.below hb1'
      have HB1 : Hid (Below w.heap.size w w1) := hb1'
      clear hb1' HA HK hca
      go_wp2_with (go_at_call 18; refine (hcb _ HK1.out).mono ?_; rintro e w2 ⟨rfl, hb2'⟩)
      go_ret2
      exact ⟨.slice none 0 0, by rw [HM.out]; rfl, by rw [HM.out]; exact PlOut.nil (HB1.out.trans (hb2'.mono HB1.out.size))⟩
  · have HM : Hid (Ix.merge (ps a) (ps b) = ([], Ix.check (ps a))) := Ix.merge_left ea
    obtain ⟨er, her⟩ : ∃ er, Ix.check (ps a) = er := ⟨_, rfl⟩
    rw [her] at hca ea HM
    have he2 : (er == 0) = false := by simpa using ea
    clear hcb her ea
    go_enter Try.func9, Try.ntmps9
    go_wp2_with (go_at_call 18; refine (hca _ HA.out).mono ?_; rintro e w1 ⟨rfl, hb1'⟩)
    go_ret2
    exact ⟨_, by rw [HM.out]; rfl, by rw [HM.out]; exact PlOut.nil hb1'⟩
end Go.Proofs.Ytllioidjelgafab
