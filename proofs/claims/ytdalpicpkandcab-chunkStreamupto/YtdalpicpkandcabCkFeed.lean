/-
  What Feed of package chunk answers.
-/
import Derived.Test.YtdalpicpkandcabCkCut
namespace Go.Proofs.Ytdalpicpkandcab
open Go.RowKit Go.Shelf

attribute [local go_sem] Oper.semAt_some
set_option maxRecDepth 100000 in
set_option maxHeartbeats 2000000 in
theorem feed_ok (mn mx bt : Nat) (hO : OkCut mn mx bt) (held more s : ByteArray) (hs : s.size ≤ 4096) (hsum : held.size + more.size = s.size) (hcat : ∀ V : World, (Op.stringOp .add held more).run Try.prog V = .ok (.string s) V) (w : World) (L : List Ck.Bs) (q : Ck.Bs) (hL : Ck.pieces (Ck.ends mn mx bt Rl.ofL) s.data.toList = (L, q)) (hLl : L.length ≤ 4096) :
    Calls Try.prog 4 #[cutV mn mx bt, .string held, .string more] w fun e w' => ∃ v, e = .returned (.tuple #[v, Sv q, .int .i64 0]) ∧ w'.ownsRow w.heap.size 9 1 v L.length (L.map Sv) ∧ Below w.heap.size w w' := by
  obtain ⟨i0, hi, hz0, hz1, hz2⟩ := info_parts info_str
  have hsz := size_any mn mx bt s.size
  rw [sizeN_zero.2 ⟨hO, by omega⟩] at hsz
  have hadd : (held.size : Int) + (more.size : Int) = (s.size : Int) := by omega
  have hpa := ruled_any mn mx bt s
  unfold cutV at hsz hpa ⊢
  obtain ⟨W4, hW4⟩ : ∃ W4, W4 = w.alloc (Obj.cells #[Value.int IntKind.i64 mn, Value.int IntKind.i64 mx, Value.int IntKind.i64 bt] 23) := ⟨_, rfl⟩
  have hlw : w.heap.size < W4.heap.size := by rw [hW4]; simp
  have HB : Hid (Below w.heap.size w W4) := by rw [hW4]; exact (Below.refl _ w).alloc (Nat.le_refl _) _
  have HC : Hid (CutAt W4 w.heap.size mn mx bt) := by rw [hW4]; exact World.alloc_heap_new w _
  have hhl : held.size ≤ 4096 := by omega
  have hml : more.size ≤ 4096 := by omega
  clear hsum
  refine (callsIn_wide (n := 9)).1 ?_
  refine callsIn_of_wp_marks Try.func4 rfl trivial ?_ rfl
  simp only [Try.ntmps4, List.size_toArray, List.length_cons, List.length_nil, Nat.reduceAdd, Nat.reduceSub, Array.replicate_succ, Array.replicate_zero, List.push_toArray, List.append_toArray, List.nil_append, List.cons_append]
  gi_wp2_with fail
  rw [← hW4]
  refine ⟨trivial, (callsIn_wide.2 (hsz _)).mono ?_⟩
  rintro e w1 ⟨rfl, hb1⟩
  have hc1 : CutAt w1 w.heap.size mn mx bt := HC.out.kept (Kept.of_below (p := fun _ => True) hb1) trivial
  have HB1 : Hid (Below w.heap.size w w1) := HB.out.trans (hb1.mono (by omega))
  have hl1 : w.heap.size < w1.heap.size := by have := hb1.size; omega
  have c0 := hc1.c0
  have c1 := hc1.c1
  have c2 := hc1.c2
  obtain ⟨w1a, hw1a⟩ : ∃ w1a, w1a = (w1.alloc (.cells #[.slice none 0 0] 24)).alloc (.cells #[.int .i64 0] 3) := ⟨_, rfl⟩
  have HBX : Hid (Boxed w1a w1.heap.size 24 (.slice none 0 0)) := by rw [hw1a]; exact (Boxed.new _ _ _).alloc _
  have HLX : Hid (Boxed w1a (w1.heap.size + 1) 3 (.int .i64 0)) := by
    rw [hw1a]
    have := Boxed.new (w1.alloc (.cells #[.slice none 0 0] 24)) 3 (.int .i64 0)
    rwa [World.size_alloc] at this
  have HB1a : Hid (Below w.heap.size w w1a) := by rw [hw1a]; exact (HB1.out.alloc (by omega) _).alloc (by simp; omega) _
  have HSZ : Hid (w1a.heap.size = w1.heap.size + 2) := by rw [hw1a]; simp [Hid]
  clear hb1 hc1 HB HC hsz HB1 hW4 hlw
  gi_wp2_with fail
  rw [← hw1a]
  refine ⟨trivial, (callsIn_wide.2 (hpa _)).mono ?_⟩
  rintro e w2 ⟨rfl, hC2, hS2, hb2, hsz2⟩
  obtain ⟨bc, hbc⟩ : ∃ bc, bc = w1a.heap.size := ⟨_, rfl⟩
  obtain ⟨bl, hbl⟩ : ∃ bl, bl = w1.heap.size := ⟨_, rfl⟩
  have HS : Hid (w.heap.size < bl ∧ bc = bl + 2 ∧ w2.heap.size = bl + 4) := by
    have := HSZ.out
    refine ⟨by omega, by omega, by omega⟩
  rw [← hbc] at hC2 hS2 ⊢
  have HI0 : Hid (Got w.heap.size w (w2.heap.size + 2) bl [] w2 ∧ Boxed w2 (bl + 1) 3 (.int .i64 (([] : List Ck.Bs).flatten.length : Nat))) := by
    refine ⟨⟨⟨_, (Kept.of_below (p := fun _ => True) hb2).boxed trivial (by rw [hbl]; exact HBX.out), World.ownsRow_nil _ _ _ _⟩, HB1a.out.trans (hb2.mono HB1a.out.size)⟩, (Kept.of_below (p := fun _ => True) hb2).boxed trivial (by rw [hbl]; exact HLX.out)⟩
  rw [← hbl]
  clear hbc hbl HB1a HBX HLX HSZ hw1a hb2 hsz2 c0 c1 c2 hpa hl1 hcat
  gi_wp2_with fail
  refine rf_outer (α := Nat × Ck.Bs) (m := 9) (gf := 20) (lb := #[.pointer (some ⟨bc, 0, none⟩), .pointer (some ⟨bc + 1, 0, none⟩)]) rfl (enters_of Try.func20 (by kernel_rfl) rfl)
    (encs := encP) (xs := Ck.withAt 0 L) (d := 0) (Kp := fun k => k = bc ∨ k = bc + 1)
    ?seq (by have z := HS.out; omega) (fun _ => rfl) (fun pre V => Got w.heap.size w (w2.heap.size + 2) bl (pre.map (·.2)) V ∧ Boxed V (bl + 1) 3 (.int .i64 ((pre.map (·.2)).flatten.length : Nat))) (fun _ _ _ => False) ?hI (fun _ _ _ _ _ h _ => h) HI0.out
    (fun x => { tmps := #[.agg #[.int .i64 mn, .int .i64 mx, .int .i64 bt], .string held, .string more, .pointer (some ⟨w.heap.size, 0, none⟩), undef, undef, .slice none 0 0, .string ⟨#[]⟩, .int .i64 0, .int .i64 0, .string s,
      .pointer (some ⟨bl, 0, none⟩), .pointer (some ⟨bl + 1, 0, none⟩), .int .i64 (x.1 : Int), Sv x.2, .agg #[.int .i64 mn, .int .i64 mx, .int .i64 bt], .string held, .int .i64 held.size, .string more, .int .i64 more.size, .int .i64 s.size,
      .int .i64 0, .int .i64 0, .bool false, undef, .string held, .string more, .string s, .agg #[.int .i64 mn, .int .i64 mx, .int .i64 bt], .string s,
      .func (.func 20) #[] #[.pointer (some ⟨bc, 0, none⟩), .pointer (some ⟨bc + 1, 0, none⟩)], .int .i64 (x.1 : Int), Sv x.2, undef, undef, undef, undef, undef, undef, undef, undef, undef, undef, undef, undef, undef], defers := [] }) ?assign ?body ?done ?stop
  case seq =>
    intro W1 hb hz
    have hk : Kept (fun _ => True) w2 W1 := Kept.of_below hb
    obtain ⟨_, _, _, h4, h5⟩ := hO
    have := ruled1_tells mn mx bt (by omega) (by omega) s hs W1 bc (bc + 1) (hk.cutAt trivial hC2) (hk.boxed trivial hS2)
    rw [hL] at this
    exact this
  case hI =>
    rintro pre A V hA ⟨hg, hb⟩ hk
    have z := HS.out
    exact ⟨hg.kept hk (by omega) (fun g hg => by omega) (fun k hk => by omega) (by omega), hk.boxed (by omega) hb⟩
  case assign =>
    intro l2 x V K hK
    simp only [encP]
    gi_wp2_with fail
    exact hK
  case body =>
    rintro l2 pre ⟨at', p⟩ V rfl hV hpre ⟨hg, hlb⟩
    obtain ⟨pb, hpb⟩ : ∃ pb : ByteArray, pb = ⟨p.toArray⟩ := ⟨_, rfl⟩
    have HP : Hid (pb.data.toList = p) := by rw [hpb]; show _ = _; simp
    have hjn := congrArg List.length (Ck.pieces_join (E := Ck.ends mn mx bt Rl.ofL) s.data.toList)
    rw [hL, List.length_append, ← Lib.size_eq] at hjn
    have hpl : (pre.map (·.2)).length ≤ 4096 := by
      have := hpre.length_le
      rw [Ck.withAt_length, List.length_append, List.length_singleton] at this
      rw [List.length_map]
      omega
    have HAT : Hid (at' = (pre.map (·.2)).flatten.length) := by
      obtain ⟨post, hp⟩ := hpre
      have := Ck.withAt_next (l := L) (a := 0) (pre := pre) (x := (at', p)) (post := post) (by rw [← hp]; simp)
      show _ = _
      simpa using this
    have hle : pb.size ≤ 4096 := by
      obtain ⟨post, hp⟩ := hpre
      have h1 : p ∈ L := by
        rw [← Ck.withAt_snd L 0, ← hp]
        simp
      have h4 := mem_flat h1
      rw [Lib.size_eq, HP.out]
      dsimp only at hjn
      omega
    have hatl : at' ≤ 4096 := by
      obtain ⟨post, hp⟩ := hpre
      rw [HAT.out]
      have h1 : (pre.map (·.2)).flatten.length ≤ L.flatten.length := by
        rw [← Ck.withAt_snd L 0, ← hp]
        simp
      dsimp only at hjn
      omega
    obtain ⟨⟨v, hv, hrow⟩, hbel⟩ := hg
    have hvc := hv.cell
    simp only [Sv, ← hpb]
    have HPE : Hid ((pre ++ [(at', p)]).map (·.2) = pre.map (·.2) ++ [pb.data.toList]) := by show _ = _; rw [HP.out]; simp
    have HLN : Hid ((at' : Int) + (pb.size : Int) = (((pre ++ [(at', p)]).map (·.2)).flatten.length : Nat)) := by
      show _ = _
      rw [HPE.out, HAT.out, Lib.size_eq]
      simp
    have HLB : Hid (Boxed V (bl + 1) 3 (.int .i64 ((pre.map (·.2)).flatten.length : Nat))) := hlb
    generalize pre.map (·.2) = l at *
    clear hpb hpre HI0 hC2 hS2 hlb hjn hL HAT HP
    gi_wp2_with (gi_at_builtin; refine wpListIn_append_own _ rfl _ _ 24 rfl (w2.heap.size + 2) 9 i0 (.string ⟨#[]⟩) 1 16 Try.underlying24 hi hz0 hz1 hz2 rfl (by decide) _ _ _ rfl (hrow.alloc _) ⟨V.heap.size, 0, none⟩ 1 1 [.string pb] rfl rfl ?c1 ?c2 ?c3 ?c4 ?c5 ?_)
    case c1 =>
      intro j u hj
      match j, hj with
      | 0, hj => simp at hj; subst hj; simp [Addr.add]
    case c2 => intro u hu; simp at hu; subst hu; rfl
    case c3 => unfold maxLen; omega
    case c4 => omega
    case c5 => simp; omega
    intro v' w5 hown1 hgrow _
    have hss := HS.out
    obtain ⟨hv1, hv2, hr2, hk2⟩ := box_appended (p := fun k => k ≠ bl ∧ k < w2.heap.size + 2) hv (by omega) hrow hown1 hgrow (fun k hk => hk)
    obtain ⟨g', cap', rfl⟩ := ownsRow_succ hown1
    have hc1 := hv1.cell
    have hf1 := hv1.frozen
    have hr3 : (w5.setCell ⟨bl, 0, none⟩ (.slice (some ⟨g', 0, none⟩) (l.length + 1) cap')).ownsRow (w2.heap.size + 2) 9 1 (.slice (some ⟨g', 0, none⟩) (l.length + 1) cap') (l ++ [pb.data.toList]).length ((l ++ [pb.data.toList]).map Sv) := by
      have := hr2
      simpa [Sv] using this
    have hb5 : Below w.heap.size w (w5.setCell ⟨bl, 0, none⟩ (.slice (some ⟨g', 0, none⟩) (l.length + 1) cap')) := hbel.trans (hk2.below hbel.size (fun k hk => by omega))
    have hl5 := hk2.boxed (show bl + 1 ≠ bl ∧ bl + 1 < w2.heap.size + 2 by omega) HLB.out
    have HW : Hid (Kept (fun k => k ≠ bl ∧ k < w2.heap.size + 2) V (w5.setCell ⟨bl, 0, none⟩ (.slice (some ⟨g', 0, none⟩) (l.length + 1) cap')) ∧ Boxed (w5.setCell ⟨bl, 0, none⟩ (.slice (some ⟨g', 0, none⟩) (l.length + 1) cap')) bl 24 (.slice (some ⟨g', 0, none⟩) (l.length + 1) cap') ∧
        (w5.setCell ⟨bl, 0, none⟩ (.slice (some ⟨g', 0, none⟩) (l.length + 1) cap')).ownsRow (w2.heap.size + 2) 9 1 (.slice (some ⟨g', 0, none⟩) (l.length + 1) cap') (l ++ [pb.data.toList]).length ((l ++ [pb.data.toList]).map Sv) ∧
        Below w.heap.size w (w5.setCell ⟨bl, 0, none⟩ (.slice (some ⟨g', 0, none⟩) (l.length + 1) cap')) ∧ Boxed (w5.setCell ⟨bl, 0, none⟩ (.slice (some ⟨g', 0, none⟩) (l.length + 1) cap')) (bl + 1) 3 (.int .i64 (l.flatten.length : Nat))) := ⟨hk2, hv2, hr3, hb5, hl5⟩
    have hlc := hl5.cell
    have hlf := hl5.frozen
    clear hss hk2 hr2 hr3 hb5 hl5 hv2 hown1 hgrow hv1 hbel hrow hv hvc HLB
    generalize hw6 : w5.setCell ⟨bl, 0, none⟩ (.slice (some ⟨g', 0, none⟩) (l.length + 1) cap') = w6 at *
    gi_wp2_with fail
    have z := HS.out
    obtain ⟨k1, k2, k3, k4, k5⟩ := HW.out
    refine ⟨(k1.mono fun k hk => by omega).setCell (by dsimp only; omega) _, ?_⟩
    show Got _ _ _ _ ((pre ++ [(at', p)]).map (·.2)) _ ∧ Boxed _ _ _ (.int .i64 ((((pre ++ [(at', p)]).map (·.2)).flatten.length : Nat) : Int))
    rw [← HLN.out, HPE.out]
    exact ⟨⟨⟨_, k2.other (by omega) _, ownsRow_setCell_below k3 (show bl + 1 < _ by omega) _⟩, k4.setCell (show w.heap.size ≤ bl + 1 by omega) _⟩, k5.set _⟩
  case done =>
    rintro V hV ⟨hg, hlb⟩ hK
    rw [Ck.withAt_snd] at hg hlb
    have hjn := congrArg List.length (Ck.pieces_join (E := Ck.ends mn mx bt Rl.ofL) s.data.toList)
    rw [hL, List.length_append, ← Lib.size_eq] at hjn
    dsimp only at hjn
    have HQ : Hid (Sv q = .string (s.extract L.flatten.length s.size)) := by
      have hj := Ck.pieces_join (E := Ck.ends mn mx bt Rl.ofL) s.data.toList
      rw [hL] at hj
      show _ = _
      rw [← sv_of, drop_ext, ← hj, List.drop_left]
    have hA : L.flatten.length ≤ s.size := by omega
    generalize L.flatten.length = A at *
    have hcl := fun V => clone_any (s.extract A s.size) V (by rw [ByteArray.size_extract]; omega)
    generalize hpe : s.extract A s.size = piece at *
    obtain ⟨⟨v, hv, hrow⟩, hbel⟩ := hg
    have hvc := hv.cell
    have hlc := hlb.cell
    have lv := hv.lt
    have ll := hlb.lt
    have d0 : ∀ X : Since V.heap.size V, X.val.cell? ⟨bl, 0, none⟩ = some v := fun X => (X.property.cell (p := ⟨bl, 0, none⟩) lv).trans hvc
    have d1 : ∀ X : Since V.heap.size V, X.val.cell? ⟨bl + 1, 0, none⟩ = some (.int .i64 (A : Int)) := fun X => (X.property.cell (p := ⟨bl + 1, 0, none⟩) ll).trans hlc
    have hne : Nonempty (Since V.heap.size V) := ⟨⟨V, Below.refl _ _⟩⟩
    have HR : Hid (V.ownsRow (w2.heap.size + 2) 9 1 v L.length (L.map Sv)) := hrow
    have HB : Hid (Below w.heap.size w V) := hbel
    have HK : Hid (V.heap[w2.heap.size]? = some (Obj.deferred (some []))) := hK
    obtain ⟨a', n', c', rfl⟩ : ∃ a n c, v = .slice a n c := by
      rcases hrow.2 with ⟨rfl, _⟩ | ⟨g, cap, cur, rfl, _⟩
      · exact ⟨_, _, _, rfl⟩
      · exact ⟨_, _, _, rfl⟩
    clear hrow hbel hK hv HI0 hC2 hS2 hlb hvc hlc lv ll hL hjn
    gi_wp2_with fail
    refine wpIn_wide.2 ?_
    refine wp_region_since (B := V.heap.size) (W0 := V) (by kernel_rfl) (by kernel_rfl) (Below.refl _ _) ?_
    repeat (go_big_quiet_step (fail))
    go_big_quiet_step (exact quiet_since _ (hcl _))
    repeat (go_big_quiet_step (fail))
    refine wpQuiet_nil ?_
    rintro w7 ⟨U, rfl⟩
    have hU := U.property
    have hR7 := own_below HR.out hU
    have hB7 := HB.out.trans (hU.mono HB.out.size)
    have hK7 : U.val.heap[w2.heap.size]? = some (Obj.deferred (some [])) := (hU.block _ (by omega)).trans HK.out
    have H7 : Hid (U.val.ownsRow (w2.heap.size + 2) 9 1 (.slice a' n' c') L.length (L.map Sv) ∧ Below w.heap.size w U.val ∧ U.val.heap[w2.heap.size]? = some (Obj.deferred (some []))) := ⟨hR7, hB7, hK7⟩
    generalize U.val = w7 at *
    clear hU hR7 hB7 hK7 d0 d1 hne hcl HR HB HK
    gi_wp2_with fail
    obtain ⟨h1, h2, h3⟩ := H7.out
    refine ⟨by simp, .inl ⟨_, _, rfl, run_takeDeferred h3, ?_⟩⟩
    have z := HS.out
    refine ⟨_, results_tmp3 rfl _ _ _, _, by rw [HQ.out]; rfl, own_lower (own_kept h1 ((Kept.refl (fun k => k ≠ w2.heap.size) _).putObj (fun h => h rfl) _) (fun g hg => by omega)) (by omega), h2.trans (((Kept.refl (fun k => k ≠ w2.heap.size) _).putObj (fun h => h rfl) _).below h2.size (fun k hk => by omega))⟩
  case stop =>
    intro c pre V _ _ h _
    exact h.elim
set_option maxHeartbeats 1000000 in
theorem feed_no (mn mx bt : Int) (held more : ByteArray) (h1 : held.size ≤ 140737488351232) (h2 : more.size ≤ 140737488351232) (w : World) (k : Int) (hk : sizeN mn mx bt (held.size + more.size : Nat) = k) (h0 : k ≠ 0) :
    Calls Try.prog 4 #[cutV mn mx bt, .string held, .string more] w fun e w' => e = .returned (.tuple #[.slice none 0 0, .string ⟨#[]⟩, .int .i64 k]) ∧ Below w.heap.size w w' := by
  have hsz := size_any mn mx bt (held.size + more.size : Nat)
  rw [hk] at hsz
  have hq : (k != 0) = true := by rw [bne_iff_ne]; exact h0
  have hadd : (held.size : Int) + (more.size : Int) = ((held.size + more.size : Nat) : Int) := by omega
  generalize held.size + more.size = n at *
  clear hk
  unfold cutV at hsz ⊢
  go_enter Try.func4, Try.ntmps4
  go_wp2_with fail
  refine (hsz _).mono ?_
  rintro e w1 ⟨rfl, hb1⟩
  have hB1 := below_past hb1
  clear hb1
  go_wp2_with fail
  go_ret3
  exact ⟨rfl, hB1⟩
end Go.Proofs.Ytdalpicpkandcab
