/-
  What the functions tell that pieces of package chunk answers.
-/
import Derived.Test.YtdalpicpkandcabCkRuled
import Derived.Test.YtdalpicpkandcabCkRefCut
import Derived.Test.YtdalpicpkandcabQuietLast
namespace Go.Proofs.Ytdalpicpkandcab
open Go.RowKit Go.Shelf

attribute [local go_sem] Oper.semAt_some
theorem RoundIn.inRound' {F : Fence} {n : Nat} {P : Program} {l : Nat} {f : FuncId} {tmps : Array Value} {assign body : Code} {w : World} {R : Ending → World → Prop} (l2 : Nat)
    (h : RoundIn F n P l f tmps assign body w R) : RoundIn (F.inRound l2) n P l f tmps assign body w R := h

theorem Kept.cutAt {p : Nat → Prop} {A B : World} {k : Nat} {mn mx bt : Int} (hk : Kept p A B) (hp : p k) (h : CutAt A k mn mx bt) : CutAt B k mn mx bt := hk.obj hp h
theorem mem_flat {p : Ck.Bs} {l : List Ck.Bs} (h : p ∈ l) : p.length ≤ l.flatten.length := by
  induction l with
  | nil => cases h
  | cons a l ih =>
    rw [List.flatten_cons, List.length_append]
    rcases List.mem_cons.1 h with rfl | h
    · omega
    · have := ih h; omega
/-- between two rounds of the loop in pieces -/
structure PcI (W : World) (l : Nat) (J : List (Nat × Ck.Bs) → World → Prop) (bc bs : Nat) (mn mx bt : Nat) (s : ByteArray) (pre : List (Nat × Ck.Bs)) (V : World) : Prop where
  j : J pre V
  tell : Boxed V W.heap.size 55 (.func (.yield l) #[] #[])
  left : Boxed V (W.heap.size + 1) 3 (.int .i64 ((pre.map (·.2)).flatten.length : Nat))
  str : Boxed V bs 9 (.string s)
  cut : CutAt V bc mn mx bt

set_option maxRecDepth 100000 in
set_option maxHeartbeats 2000000 in
theorem pieces1_tells (mn mx bt : Nat) (hb1 : 1 ≤ bt) (hb2 : bt ≤ 12) (s : ByteArray) (hs : s.size ≤ 4096) (W : World) (bc bs : Nat) (hc : CutAt W bc mn mx bt) (hsb : Boxed W bs 9 (.string s))
    (ls : List Ck.Bs) (q : Ck.Bs) (XS : List (Nat × Ck.Bs)) (hpc : Ck.pieces (Ck.ends mn mx bt Rl.ofL) s.data.toList = (ls, q)) (hX : XS = if q = [] then Ck.withAt 0 ls else Ck.withAt 0 ls ++ [(ls.flatten.length, q)]) :
    Tells Try.prog 28 #[.pointer (some ⟨bc, 0, none⟩), .pointer (some ⟨bs, 0, none⟩)] encP XS 6 (fun k => k = bc ∨ k = bs) W := by
  intro l J Jx hJ hJx hY h0
  have c0 := hc.c0
  have c1 := hc.c1
  have c2 := hc.c2
  have cs := hsb.cell
  have lc := hc.lt
  have lsb := hsb.lt
  obtain ⟨W2, hW2⟩ : ∃ W2, W2 = (W.alloc (Obj.cells #[Value.func (Fn.yield l) #[] #[]] 55)).alloc (Obj.cells #[Value.int IntKind.i64 0] 3) := ⟨_, rfl⟩
  have hsz2 : W2.heap.size = W.heap.size + 2 := by rw [hW2]; simp
  have HB2 : Hid (Below W.heap.size W W2) := by rw [hW2]; exact ((Below.refl _ W).alloc (Nat.le_refl _) _).alloc (by simp) _
  have HT2 : Hid (Boxed W2 W.heap.size 55 (.func (.yield l) #[] #[])) := by rw [hW2]; exact (Boxed.new W _ _).alloc _
  have HL2 : Hid (Boxed W2 (W.heap.size + 1) 3 (.int .i64 0)) := by
    rw [hW2]
    have := Boxed.new (W.alloc (Obj.cells #[Value.func (Fn.yield l) #[] #[]] 55)) 3 (.int .i64 0)
    rwa [World.size_alloc] at this
  refine (callsIn_wide (n := 9)).1 ?_
  refine callsIn_of_wp_marks Try.func28 rfl trivial ?_ rfl
  simp only [Try.ntmps28, List.size_toArray, List.length_cons, List.length_nil, Nat.reduceAdd, Nat.reduceSub, Array.replicate_succ, Array.replicate_zero, List.push_toArray, List.append_toArray, List.nil_append, List.cons_append]
  gi_wp2_with fail
  rw [← hW2]
  refine ⟨trivial, (callsIn_wide.2 (ruled_any mn mx bt s W2)).mono ?_⟩
  rintro e w ⟨rfl, hC2, hS2, hB2, hsz⟩
  rw [hsz2] at hC2 hS2 hsz
  rw [show (W.heap.size + 2 : Nat) = W2.heap.size from hsz2.symm] at hsz
  have HI0 : Hid (PcI W l J bc bs mn mx bt s [] w) := by
    have hk : Kept (fun _ => True) W W2 := Kept.of_below HB2.out
    have hk2 : Kept (fun _ => True) W2 w := Kept.of_below hB2
    exact ⟨hJ _ _ _ (Nat.le_refl _) h0 ((hk.trans hk2).mono fun _ _ => trivial), hk2.boxed trivial HT2.out, hk2.boxed trivial HL2.out, (hk.trans hk2).boxed trivial hsb, (hk.trans hk2).cutAt trivial hc⟩
  have hszw : w.heap.size = W.heap.size + 4 := by omega
  clear HB2 HT2 HL2 hW2 c0 c1 c2 cs hc hsb h0 hB2 hsz
  have HPX : Hid (∀ pre x, pre ++ [x] <+: Ck.withAt 0 ls → pre ++ [x] <+: XS) := fun pre x h => by
    rw [hX]
    split
    · exact h
    · exact h.trans (List.prefix_append _ _)
  obtain ⟨B2, hB2⟩ : ∃ B2, B2 = W2.heap.size := ⟨_, rfl⟩
  rw [← hsz2, ← hB2] at hC2 hS2
  rw [← hB2]
  rw [← hB2] at hsz2
  clear hB2
  have HSZ2 : Hid (B2 = W.heap.size + 2) := hsz2
  have HSZW : Hid (w.heap.size = W.heap.size + 4) := hszw
  clear hsz2 hszw
  gi_wp2_with fail
  refine rf_outer (α := Nat × Ck.Bs) (m := 9) (gf := 20) (lb := #[.pointer (some ⟨B2, 0, none⟩), .pointer (some ⟨B2 + 1, 0, none⟩)]) rfl (enters_of Try.func20 (by kernel_rfl) rfl)
    (encs := encP) (xs := Ck.withAt 0 ls) (d := 0) (Kp := fun k => k = B2 ∨ k = B2 + 1)
    ?seq (by have z2 := HSZ2.out; have zw := HSZW.out; omega) (fun _ => rfl) (PcI W l J bc bs mn mx bt s) (fun c pre V => c = .ret ∧ Jx pre V) ?hI ?hIx HI0.out
    (fun x => { tmps := #[.func (.yield l) #[] #[], .pointer (some ⟨bc, 0, none⟩), .pointer (some ⟨bs, 0, none⟩), .pointer (some ⟨W.heap.size, 0, none⟩), .pointer (some ⟨W.heap.size + 1, 0, none⟩), .int .i64 (x.1 : Int), Sv x.2,
      .agg #[.int .i64 mn, .int .i64 mx, .int .i64 bt], .string s, .func (.func 20) #[] #[.pointer (some ⟨B2, 0, none⟩), .pointer (some ⟨B2 + 1, 0, none⟩)], .int .i64 (x.1 : Int), Sv x.2,
      undef, undef, undef, undef, undef, undef, undef, undef, undef, undef, undef, undef, undef, undef, undef, undef, undef, undef, undef, undef], defers := [] }) ?assign ?body ?done ?stop
  case seq =>
    intro W1 hb hz
    have hk : Kept (fun _ => True) w W1 := Kept.of_below hb
    have := ruled1_tells mn mx bt hb1 hb2 s hs W1 B2 (B2 + 1) (hk.cutAt trivial hC2) (hk.boxed trivial hS2)
    rw [hpc] at this
    exact this
  case hI =>
    rintro pre A V hA ⟨h1, h2, h3, h4, h5⟩ hk
    have z2 := HSZ2.out
    have zw := HSZW.out
    exact ⟨hJ _ _ _ (by omega) h1 (hk.mono fun k hk => by omega), hk.boxed (by omega) h2, hk.boxed (by omega) h3, hk.boxed (by omega) h4, hk.cutAt (by omega) h5⟩
  case hIx =>
    rintro c pre A V hA ⟨h1, h2⟩ hk
    have z2 := HSZ2.out
    have zw := HSZW.out
    exact ⟨h1, hJx _ _ _ (by omega) h2 (hk.mono fun k hk => by omega)⟩
  case assign =>
    intro l2 x V K hK
    simp only [encP]
    gi_wp2_with fail
    exact hK
  case body =>
    rintro l2 pre ⟨at', p⟩ V rfl hV hpre hi
    have HAT : Hid (at' = (pre.map (·.2)).flatten.length) := by
      obtain ⟨post, hp⟩ := hpre
      have := Ck.withAt_next (l := ls) (a := 0) (pre := pre) (x := (at', p)) (post := post) (by rw [← hp]; simp)
      show _ = _
      simpa using this
    have HI : Hid (PcI W l J bc bs mn mx bt s pre V) := hi
    obtain ⟨fn, tmps, assign, body, hy, hR⟩ := YieldAt.anyDepth' 8 (hY pre (at', p) V (by have zw := HSZW.out; omega) (HPX.out _ _ hpre) hi.j)
    have ct := hi.tell.cell
    obtain ⟨pb, hpb⟩ : ∃ pb : ByteArray, pb = ⟨p.toArray⟩ := ⟨_, rfl⟩
    have HLEN : Hid (pb.size = p.length) := by rw [hpb]; show _ = _; simp [ByteArray.size]
    have hle : pb.size ≤ 4096 := by
      obtain ⟨post, hp⟩ := hpre
      have h1 : p ∈ ls := by
        rw [← Ck.withAt_snd ls 0, ← hp]
        simp
      have h2 := congrArg List.length (Ck.pieces_join (E := Ck.ends mn mx bt Rl.ofL) s.data.toList)
      rw [hpc, List.length_append, ← Lib.size_eq] at h2
      have h4 := mem_flat h1
      rw [HLEN.out]
      dsimp only at h2
      omega
    have hatl : at' ≤ 4096 := by
      obtain ⟨post, hp⟩ := hpre
      rw [HAT.out]
      have h1 : (pre.map (·.2)).flatten.length ≤ ls.flatten.length := by
        rw [← Ck.withAt_snd ls 0, ← hp]
        simp
      have h2 := congrArg List.length (Ck.pieces_join (E := Ck.ends mn mx bt Rl.ofL) s.data.toList)
      rw [hpc, List.length_append, ← Lib.size_eq] at h2
      dsimp only at h2
      omega
    simp only [encP, Sv, ← hpb] at hy ⊢
    clear hpb hi hpre hV hX
    gi_wp2_with fail
    refine (RoundIn.inRound' _ hR).mono ?_
    rintro e V3 ⟨hk3, (⟨rfl, hJ3⟩ | ⟨rfl, hx3⟩)⟩
    · have HK3 : Hid (Kept (fun k => (k = bc ∨ k = bs) ∨ (W.heap.size ≤ k ∧ k < W.heap.size + 6)) V V3) := hk3
      have hl3 : Boxed V3 (W.heap.size + 1) 3 (.int .i64 ((pre.map (·.2)).flatten.length : Nat)) := hk3.boxed (.inr (by omega)) HI.out.left
      have cl3 := hl3.cell
      have fl3 := hl3.frozen
      have HL3 : Hid (Boxed V3 (W.heap.size + 1) 3 (.int .i64 ((pre.map (·.2)).flatten.length : Nat))) := hl3
      have HJ3 : Hid (J (pre ++ [(at', p)]) V3) := hJ3
      clear hl3 hk3 hJ3 hy hR ct
      gi_wp2_with fail
      have z2 := HSZ2.out
      have zw := HSZW.out
      have hi := HI.out
      have hk := HK3.out
      have hs3 := hk.size
      have hV : W.heap.size ≤ V.heap.size := by have := hi.tell.lt; omega
      refine ⟨(hk.mono fun k hk => by omega).setCell (by dsimp only; omega) _, ?_⟩
      refine ⟨hJ _ _ _ (by omega) HJ3.out ((Kept.refl _ _).setCell (by dsimp only; omega) _), (hk.boxed (.inr (by omega)) hi.tell).other (by omega) _, ?_, (hk.boxed (.inl (.inr rfl)) hi.str).other (by omega) _, ?_⟩
      · have := HL3.out.set (.int .i64 ((at' : Int) + (pb.size : Int)))
        rw [HLEN.out, HAT.out] at this
        rw [HLEN.out, HAT.out]
        simpa using this
      · exact ((Kept.refl (fun k => k ≠ W.heap.size + 1) V3).setCell (fun h => h rfl) _).cutAt (show bc ≠ _ by omega) (hk.cutAt (.inl (.inl rfl)) hi.cut)
    · have HK3 : Hid (Kept (fun k => (k = bc ∨ k = bs) ∨ (W.heap.size ≤ k ∧ k < W.heap.size + 6)) V V3) := hk3
      clear hk3 hy hR ct
      gi_wp2_with fail
      have z2 := HSZ2.out
      have zw := HSZW.out
      exact ⟨HK3.out.mono fun k hk => by omega, rfl, hx3⟩
  case done =>
    intro V hV hi hK
    have hlen : ls.flatten.length + q.length = s.size := by
      have h2 := congrArg List.length (Ck.pieces_join (E := Ck.ends mn mx bt Rl.ofL) s.data.toList)
      rw [hpc, List.length_append, ← Lib.size_eq] at h2
      exact h2
    have HI : Hid (PcI W l J bc bs mn mx bt s (Ck.withAt 0 ls) V) := hi
    have HK : Hid (V.heap[w.heap.size]? = some (Obj.deferred (some []))) := hK
    have hl := hi.left
    rw [Ck.withAt_snd] at hl
    have cl := hl.cell
    have cs := hi.str.cell
    have ct := hi.tell.cell
    generalize hA : ls.flatten.length = A at *
    have HL : Hid (Boxed V (W.heap.size + 1) 3 (.int .i64 (A : Int))) := hl
    clear hl hi hK HI0 hC2 hS2
    by_cases hq : q = []
    · have hn : ¬ A < s.size := by rw [hq] at hlen; simp at hlen; omega
      have HX : Hid (XS = Ck.withAt 0 ls) := by show _ = _; rw [hX, if_pos hq]
      clear hX hlen
      gi_wp2_with fail
      refine ⟨by simp, .inl ⟨_, _, rfl, run_takeDeferred HK.out, ?_⟩⟩
      have zw := HSZW.out
      refine ⟨_, results_none rfl _ _ _, ⟨_, rfl⟩, by rw [World.putObj_size]; omega, .inl ?_⟩
      rw [HX.out]
      exact hJ _ _ _ (by omega) HI.out.j ((Kept.refl _ _).putObj (by omega) _)
    · have hn : A < s.size := by have := List.length_pos_iff.2 hq; omega
      have HX : Hid (XS = Ck.withAt 0 ls ++ [(A, q)]) := by show _ = _; rw [hX, if_neg hq]
      have HE : Hid (encP (A, q) = #[.int .i64 (A : Int), .string (s.extract A s.size)]) := by
        show _ = _
        have hj := Ck.pieces_join (E := Ck.ends mn mx bt Rl.ofL) s.data.toList
        rw [hpc] at hj
        have : s.data.toList.drop A = q := by rw [← hj, ← hA, List.drop_left]
        rw [encP, Sv, ← this, ← drop_ext]
      have HY : Hid (∀ V2, Below V.heap.size V V2 → YieldAt Fence.wide 8 Try.prog l #[.int .i64 (A : Int), .string (s.extract A s.size)] V2 fun e W' =>
          ∃ bb, e = .returned (.bool bb) ∧ Kept (fun k => (k = bc ∨ k = bs) ∨ (W.heap.size ≤ k ∧ k < W.heap.size + 6)) V2 W' ∧ Hid (J XS W' ∨ Jx XS W')) := fun V2 hb => by
        have hs2 := hb.size
        have zw := HSZW.out
        have := hY (Ck.withAt 0 ls) (A, q) V2 (by omega) (by rw [HX.out]; exact List.prefix_rfl) (hJ _ _ _ (by omega) HI.out.j (Kept.of_below hb))
        rw [HE.out, ← HX.out] at this
        refine YieldAt.anyDepth' 8 (YieldAt.mono this ?_)
        rintro e W' ⟨hk, (⟨he, h⟩ | ⟨he, h⟩)⟩
        · exact ⟨true, he, hk, .inl h⟩
        · exact ⟨false, he, hk, .inr h⟩
      have hcl := fun V => clone_any (s.extract A s.size) V (by rw [ByteArray.size_extract]; omega)
      generalize hpe : s.extract A s.size = piece at *
      have hmx : Try.prog.follows .mixedOrders = true := by kernel_rfl
      clear hX hlen hY
      gi_wp2_with fail
      have ct2 : ∀ X : Since V.heap.size V, X.val.cell? ⟨W.heap.size, 0, none⟩ = some (.func (.yield l) #[] #[]) := fun X => (X.property.cell (p := ⟨W.heap.size, 0, none⟩) HI.out.tell.lt).trans ct
      have cl2 : ∀ X : Since V.heap.size V, X.val.cell? ⟨W.heap.size + 1, 0, none⟩ = some (.int .i64 (A : Int)) := fun X => (X.property.cell (p := ⟨W.heap.size + 1, 0, none⟩) HL.out.lt).trans cl
      have cs2 : ∀ X : Since V.heap.size V, X.val.cell? ⟨bs, 0, none⟩ = some (.string s) := fun X => (X.property.cell (p := ⟨bs, 0, none⟩) HI.out.str.lt).trans cs
      have hne : Nonempty (Since V.heap.size V) := ⟨⟨V, Below.refl _ _⟩⟩
      refine wpIn_region_last (B := V.heap.size) (W0 := V) 6 _ rfl hmx (by kernel_rfl) (by kernel_rfl) (by kernel_rfl) (by kernel_rfl) (Below.refl _ _) ?_
      simp only [List.modify_succ_cons, List.modify_zero_cons, mute]
      repeat (go_big_quiet_step (fail))
      go_big_quiet_step (exact quiet_since _ (hcl _))
      repeat (go_big_quiet_step (fail))
      refine wpQuiet_nil ?_
      rintro w2 ⟨U, rfl⟩
      have hb2 := U.property
      obtain ⟨fn, tmps, assign, body, hy, hR⟩ := HY.out U.val hb2
      generalize U.val = w2 at *
      unfold wpOpIn
      simp only [List.getElem?_toArray, List.getElem?_cons_succ, List.getElem?_cons_zero, Region.wanted, if_true]
      refine ⟨fun _ _ => trivial, ?_⟩
      rw [show Fence.wide.round = none from rfl, Oper.semAt_none]
      go_simp
      refine hR.mono ?_
      rintro e w3 ⟨bb, rfl, hk3, hfin⟩
      have zw := HSZW.out
      have hlt : w.heap.size < V.heap.size := (Array.getElem?_eq_some_iff.1 HK.out).1
      have hK2 : w2.heap[w.heap.size]? = some (Obj.deferred (some [])) := (hb2.block _ hlt).trans HK.out
      have hK3 : w3.heap[w.heap.size]? = some (Obj.deferred (some [])) := hk3.obj (.inr (by omega)) hK2
      have hs3 := hk3.size
      have hs2 := hb2.size
      refine ⟨by simp, .inl ⟨_, _, rfl, run_takeDeferred hK3, ?_⟩⟩
      refine ⟨_, results_none rfl _ _ _, ⟨_, rfl⟩, by rw [World.putObj_size]; omega, ?_⟩
      rcases hfin.out with h | h
      · exact .inl (hJ _ _ _ (by omega) h ((Kept.refl _ _).putObj (by omega) _))
      · exact .inr ⟨XS, List.prefix_rfl, hJx _ _ _ (by omega) h ((Kept.refl _ _).putObj (by omega) _)⟩
  case stop =>
    rintro c pre V hV hpre ⟨rfl, hx⟩ hK
    gi_wp2_with fail
    refine ⟨by simp, .inl ⟨_, _, rfl, run_takeDeferred hK, ?_⟩⟩
    have zw := HSZW.out
    refine ⟨_, results_none rfl _ _ _, ⟨_, rfl⟩, by rw [World.putObj_size]; omega, .inr ⟨pre, ?_, hJx _ _ _ (by omega) hx ((Kept.refl _ _).putObj (by omega) _)⟩⟩
    rw [hX]
    split
    · exact hpre
    · exact hpre.trans (List.prefix_append _ _)
theorem withAt_cut {E : Ck.Bs → Bool} {t : Ck.Bs} {ls : List Ck.Bs} {q : Ck.Bs} (h : Ck.pieces E t = (ls, q)) : Ck.withAt 0 (Ck.cut E t) = if q = [] then Ck.withAt 0 ls else Ck.withAt 0 ls ++ [(ls.flatten.length, q)] := by
  rw [Ck.cut_of h]
  split
  · rfl
  · rw [Ck.withAt_append, Nat.zero_add]; rfl
theorem pieces1_all (mn mx bt : Nat) (hb1 : 1 ≤ bt) (hb2 : bt ≤ 12) (s : ByteArray) (hs : s.size ≤ 4096) (W : World) (bc bs : Nat) (hc : CutAt W bc mn mx bt) (hsb : Boxed W bs 9 (.string s)) :
    Tells Try.prog 28 #[.pointer (some ⟨bc, 0, none⟩), .pointer (some ⟨bs, 0, none⟩)] encP (Ck.withAt 0 (Ck.cut (Ck.ends mn mx bt Rl.ofL) s.data.toList)) 6 (fun k => k = bc ∨ k = bs) W := by
  obtain ⟨ls, q, h⟩ : ∃ ls q, Ck.pieces (Ck.ends mn mx bt Rl.ofL) s.data.toList = (ls, q) := ⟨_, _, rfl⟩
  exact pieces1_tells mn mx bt hb1 hb2 s hs W bc bs hc hsb ls q _ h (withAt_cut h)

set_option maxHeartbeats 400000 in
theorem pieces_any (mn mx bt : Int) (s : ByteArray) (w : World) :
    Calls Try.prog 18 #[cutV mn mx bt, .string s] w fun e w' => e = .returned (.func (.func 28) #[] #[.pointer (some ⟨w.heap.size, 0, none⟩), .pointer (some ⟨w.heap.size + 1, 0, none⟩)]) ∧
      CutAt w' w.heap.size mn mx bt ∧ Boxed w' (w.heap.size + 1) 9 (.string s) ∧ Below w.heap.size w w' ∧ w'.heap.size = w.heap.size + 2 := by
  unfold cutV
  go_enter Try.func18, Try.ntmps18
  go_wp2
  go_ret
  refine ⟨rfl, ?_, ?_, ((Below.refl _ w).alloc (Nat.le_refl _) _).alloc (by simp) _, by simp⟩
  · exact (Below.heap_alloc _ _ _ (by simp)).trans (World.alloc_heap_new w _)
  · have := World.alloc_heap_new (w.alloc (.cells #[.int .i64 mn, .int .i64 mx, .int .i64 bt] 23)) (.cells #[.string s] 9)
    rwa [World.size_alloc] at this
end Go.Proofs.Ytdalpicpkandcab
