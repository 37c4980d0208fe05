/-
  What DeltaOwn leans on, part 2.
-/
import Derived.Test.YthpcbbkpjggjbaaGreatDoorZDeltaOwn1
import Derived.Laws.AppendOwn
import Derived.Shelf.Strings.LastIndex
import Derived.Deep.AppendLies
import Derived.Deep.RegionLaw
import Derived.Shelf.Slices.Turned

namespace Go.Proofs.YthpcbbkpjggjbaaGreatDoor
open Go.RowKit Go.Shelf
attribute [local go_sem] Oper.semAt_some
theorem RoundIn.inRound' {F : Fence} {n : Nat} {P : Program} {l : Nat} {f : FuncId} {tmps : Array Value} {assign body : Code} {w : World} {R : Ending → World → Prop} (l2 : Nat)
    (h : RoundIn F n P l f tmps assign body w R) : RoundIn (F.inRound l2) n P l f tmps assign body w R := h
theorem Kept.cutAt {p : Nat → Prop} {A B : World} {k : Nat} {mn mx bt : Int} (hk : Kept p A B) (hp : p k) (h : CutAt A k mn mx bt) : CutAt B k mn mx bt := hk.obj hp h
theorem mem_flat {p : Ck.Bs} {l : List Ck.Bs} (h : p ∈ l) : p.length ≤ l.flatten.length := by
  induction l with
  | nil => cases h
  | cons a l ih =>
    rw [List.flatten_cons, List.length_append]
    rcases List.mem_cons.1 h with rfl | h
    · omega
    · have := ih h; omega
structure PcI (W : World) (l : Nat) (J : List (Nat × Ck.Bs) → World → Prop) (bc bs : Nat) (mn mx bt : Nat) (s : ByteArray) (pre : List (Nat × Ck.Bs)) (V : World) : Prop where
  j : J pre V
  tell : Boxed V W.heap.size 193 (.func (.yield l) #[] #[])
  left : Boxed V (W.heap.size + 1) 3 (.int .i64 ((pre.map (·.2)).flatten.length : Nat))
  str : Boxed V bs 9 (.string s)
  cut : CutAt V bc mn mx bt
set_option maxRecDepth 100000 in
set_option maxHeartbeats 2000000 in
theorem pieces1_tells (mn mx bt : Nat) (hb1 : 1 ≤ bt) (hb2 : bt ≤ 12) (s : ByteArray) (hs : s.size ≤ 4096) (W : World) (bc bs : Nat) (hc : CutAt W bc mn mx bt) (hsb : Boxed W bs 9 (.string s))
    (ls : List Ck.Bs) (q : Ck.Bs) (XS : List (Nat × Ck.Bs)) (hpc : Ck.pieces (Ck.ends mn mx bt Rl.ofL) s.data.toList = (ls, q)) (hX : XS = if q = [] then Ck.withAt 0 ls else Ck.withAt 0 ls ++ [(ls.flatten.length, q)]) :
    Tells Tryz.prog 125 #[.pointer (some ⟨bc, 0, none⟩), .pointer (some ⟨bs, 0, none⟩)] encP XS 6 (fun k => k = bc ∨ k = bs) W := by
  intro l J Jx hJ hJx hY h0
  have c0 := hc.c0
  have c1 := hc.c1
  have c2 := hc.c2
  have cs := hsb.cell
  have lc := hc.lt
  have lsb := hsb.lt
  obtain ⟨W2, hW2⟩ : ∃ W2, W2 = (W.alloc (Obj.cells #[Value.func (Fn.yield l) #[] #[]] 193)).alloc (Obj.cells #[Value.int IntKind.i64 0] 3) := ⟨_, rfl⟩
  have hsz2 : W2.heap.size = W.heap.size + 2 := by rw [hW2]; simp
  have HB2 : Hid (Below W.heap.size W W2) := by rw [hW2]; exact ((Below.refl _ W).alloc (Nat.le_refl _) _).alloc (by simp) _
  have HT2 : Hid (Boxed W2 W.heap.size 193 (.func (.yield l) #[] #[])) := by rw [hW2]; exact (Boxed.new W _ _).alloc _
  have HL2 : Hid (Boxed W2 (W.heap.size + 1) 3 (.int .i64 0)) := by
    rw [hW2]
    have := Boxed.new (W.alloc (Obj.cells #[Value.func (Fn.yield l) #[] #[]] 193)) 3 (.int .i64 0)
    rwa [World.size_alloc] at this
  refine (callsIn_wide (n := 9)).1 ?_
  refine callsIn_of_wp_marks Tryz.func125 rfl trivial ?_ rfl
  simp only [Tryz.ntmps125, List.size_toArray, List.length_cons, List.length_nil, Nat.reduceAdd, Nat.reduceSub, Array.replicate_succ, Array.replicate_zero, List.push_toArray, List.append_toArray, List.nil_append, List.cons_append]
  gi_wp2_with fail
  rw [← hW2]
  refine ⟨trivial, (callsIn_wide.2 (ruled_any mn mx bt s W2)).mono ?_⟩
  rintro e w ⟨rfl, hC2, hS2, hB2, hsz⟩
  rw [hsz2] at hC2 hS2 hsz
  rw [show (W.heap.size + 2 : Nat) = W2.heap.size from hsz2.symm] at hsz
  have HI0 : Hid (PcI W l J bc bs mn mx bt s [] w) := by
    have hk : Kept (fun _ => True) W W2 := Kept.of_below HB2.out
    have hk2 : Kept (fun _ => True) W2 w := Kept.of_below hB2
    exact ⟨hJ _ _ _ (Nat.le_refl _) h0 ((hk.trans hk2).mono fun _ _ => trivial), hk2.boxed trivial HT2.out, hk2.boxed trivial HL2.out, (hk.trans hk2).boxed trivial hsb, (hk.trans hk2).cutAt trivial hc⟩
  have hszw : w.heap.size = W.heap.size + 4 := by omega
  clear HB2 HT2 HL2 hW2 c0 c1 c2 cs hc hsb h0 hB2 hsz
  have HPX : Hid (∀ pre x, pre ++ [x] <+: Ck.withAt 0 ls → pre ++ [x] <+: XS) := fun pre x h => by
    rw [hX]
    split
    · exact h
    · exact h.trans (List.prefix_append _ _)
  obtain ⟨B2, hB2⟩ : ∃ B2, B2 = W2.heap.size := ⟨_, rfl⟩
  rw [← hsz2, ← hB2] at hC2 hS2
  rw [← hB2]
  rw [← hB2] at hsz2
  clear hB2
  have HSZ2 : Hid (B2 = W.heap.size + 2) := hsz2
  have HSZW : Hid (w.heap.size = W.heap.size + 4) := hszw
  clear hsz2 hszw
  gi_wp2_with fail
  refine rf_outer (α := Nat × Ck.Bs) (m := 9) (gf := 133) (lb := #[.pointer (some ⟨B2, 0, none⟩), .pointer (some ⟨B2 + 1, 0, none⟩)]) rfl (enters_of Tryz.func133 (by kernel_rfl) rfl)
    (encs := encP) (xs := Ck.withAt 0 ls) (d := 0) (Kp := fun k => k = B2 ∨ k = B2 + 1)
    ?seq (by have z2 := HSZ2.out; have zw := HSZW.out; omega) (fun _ => rfl) (PcI W l J bc bs mn mx bt s) (fun c pre V => c = .ret ∧ Jx pre V) ?hI ?hIx HI0.out
    (fun x => { tmps := #[.func (.yield l) #[] #[], .pointer (some ⟨bc, 0, none⟩), .pointer (some ⟨bs, 0, none⟩), .pointer (some ⟨W.heap.size, 0, none⟩), .pointer (some ⟨W.heap.size + 1, 0, none⟩), .int .i64 (x.1 : Int), Sv x.2,
      .agg #[.int .i64 mn, .int .i64 mx, .int .i64 bt], .string s, .func (.func 133) #[] #[.pointer (some ⟨B2, 0, none⟩), .pointer (some ⟨B2 + 1, 0, none⟩)], .int .i64 (x.1 : Int), Sv x.2,
      undef, undef, undef, undef, undef, undef, undef, undef, undef, undef, undef, undef, undef, undef, undef, undef, undef, undef, undef, undef], defers := [] }) ?assign ?body ?done ?stop
  case seq =>
    intro W1 hb hz
    have hk : Kept (fun _ => True) w W1 := Kept.of_below hb
    have := ruled1_tells mn mx bt hb1 hb2 s hs W1 B2 (B2 + 1) (hk.cutAt trivial hC2) (hk.boxed trivial hS2)
    rw [hpc] at this
    exact this
  case hI =>
    rintro pre A V hA ⟨h1, h2, h3, h4, h5⟩ hk
    have z2 := HSZ2.out
    have zw := HSZW.out
    exact ⟨hJ _ _ _ (by omega) h1 (hk.mono fun k hk => by omega), hk.boxed (by omega) h2, hk.boxed (by omega) h3, hk.boxed (by omega) h4, hk.cutAt (by omega) h5⟩
  case hIx =>
    rintro c pre A V hA ⟨h1, h2⟩ hk
    have z2 := HSZ2.out
    have zw := HSZW.out
    exact ⟨h1, hJx _ _ _ (by omega) h2 (hk.mono fun k hk => by omega)⟩
  case assign =>
    intro l2 x V K hK
    simp only [encP]
    gi_wp2_with fail
    exact hK
  case body =>
    rintro l2 pre ⟨at', p⟩ V rfl hV hpre hi
    have HAT : Hid (at' = (pre.map (·.2)).flatten.length) := by
      obtain ⟨post, hp⟩ := hpre
      have := Ck.withAt_next (l := ls) (a := 0) (pre := pre) (x := (at', p)) (post := post) (by rw [← hp]; simp)
      show _ = _
      simpa using this
    have HI : Hid (PcI W l J bc bs mn mx bt s pre V) := hi
    obtain ⟨fn, tmps, assign, body, hy, hR⟩ := YieldAt.anyDepth' 8 (hY pre (at', p) V (by have zw := HSZW.out; omega) (HPX.out _ _ hpre) hi.j)
    have ct := hi.tell.cell
    obtain ⟨pb, hpb⟩ : ∃ pb : ByteArray, pb = ⟨p.toArray⟩ := ⟨_, rfl⟩
    have HLEN : Hid (pb.size = p.length) := by rw [hpb]; show _ = _; simp [ByteArray.size]
    have hle : pb.size ≤ 4096 := by
      obtain ⟨post, hp⟩ := hpre
      have h1 : p ∈ ls := by
        rw [← Ck.withAt_snd ls 0, ← hp]
        simp
      have h2 := congrArg List.length (Ck.pieces_join (E := Ck.ends mn mx bt Rl.ofL) s.data.toList)
      rw [hpc, List.length_append, ← Lib.size_eq] at h2
      have h4 := mem_flat h1
      rw [HLEN.out]
      dsimp only at h2
      omega
    have hatl : at' ≤ 4096 := by
      obtain ⟨post, hp⟩ := hpre
      rw [HAT.out]
      have h1 : (pre.map (·.2)).flatten.length ≤ ls.flatten.length := by
        rw [← Ck.withAt_snd ls 0, ← hp]
        simp
      have h2 := congrArg List.length (Ck.pieces_join (E := Ck.ends mn mx bt Rl.ofL) s.data.toList)
      rw [hpc, List.length_append, ← Lib.size_eq] at h2
      dsimp only at h2
      omega
    simp only [encP, Sv, ← hpb] at hy ⊢
    clear hpb hi hpre hV hX
    gi_wp2_with fail
    refine (RoundIn.inRound' _ hR).mono ?_
    rintro e V3 ⟨hk3, (⟨rfl, hJ3⟩ | ⟨rfl, hx3⟩)⟩
    · have HK3 : Hid (Kept (fun k => (k = bc ∨ k = bs) ∨ (W.heap.size ≤ k ∧ k < W.heap.size + 6)) V V3) := hk3
      have hl3 : Boxed V3 (W.heap.size + 1) 3 (.int .i64 ((pre.map (·.2)).flatten.length : Nat)) := hk3.boxed (.inr (by omega)) HI.out.left
      have cl3 := hl3.cell
      have fl3 := hl3.frozen
      have HL3 : Hid (Boxed V3 (W.heap.size + 1) 3 (.int .i64 ((pre.map (·.2)).flatten.length : Nat))) := hl3
      have HJ3 : Hid (J (pre ++ [(at', p)]) V3) := hJ3
      clear hl3 hk3 hJ3 hy hR ct
      gi_wp2_with fail
      have z2 := HSZ2.out
      have zw := HSZW.out
      have hi := HI.out
      have hk := HK3.out
      have hs3 := hk.size
      have hV : W.heap.size ≤ V.heap.size := by have := hi.tell.lt; omega
      refine ⟨(hk.mono fun k hk => by omega).setCell (by dsimp only; omega) _, ?_⟩
      refine ⟨hJ _ _ _ (by omega) HJ3.out ((Kept.refl _ _).setCell (by dsimp only; omega) _), (hk.boxed (.inr (by omega)) hi.tell).other (by omega) _, ?_, (hk.boxed (.inl (.inr rfl)) hi.str).other (by omega) _, ?_⟩
      · have := HL3.out.set (.int .i64 ((at' : Int) + (pb.size : Int)))
        rw [HLEN.out, HAT.out] at this
        rw [HLEN.out, HAT.out]
        simpa using this
      · exact ((Kept.refl (fun k => k ≠ W.heap.size + 1) V3).setCell (fun h => h rfl) _).cutAt (show bc ≠ _ by omega) (hk.cutAt (.inl (.inl rfl)) hi.cut)
    · have HK3 : Hid (Kept (fun k => (k = bc ∨ k = bs) ∨ (W.heap.size ≤ k ∧ k < W.heap.size + 6)) V V3) := hk3
      clear hk3 hy hR ct
      gi_wp2_with fail
      have z2 := HSZ2.out
      have zw := HSZW.out
      exact ⟨HK3.out.mono fun k hk => by omega, rfl, hx3⟩
  case done =>
    intro V hV hi hK
    have hlen : ls.flatten.length + q.length = s.size := by
      have h2 := congrArg List.length (Ck.pieces_join (E := Ck.ends mn mx bt Rl.ofL) s.data.toList)
      rw [hpc, List.length_append, ← Lib.size_eq] at h2
      exact h2
    have HI : Hid (PcI W l J bc bs mn mx bt s (Ck.withAt 0 ls) V) := hi
    have HK : Hid (V.heap[w.heap.size]? = some (Obj.deferred (some []))) := hK
    have hl := hi.left
    rw [Ck.withAt_snd] at hl
    have cl := hl.cell
    have cs := hi.str.cell
    have ct := hi.tell.cell
    generalize hA : ls.flatten.length = A at *
    have HL : Hid (Boxed V (W.heap.size + 1) 3 (.int .i64 (A : Int))) := hl
    clear hl hi hK HI0 hC2 hS2
    by_cases hq : q = []
    · have hn : ¬ A < s.size := by rw [hq] at hlen; simp at hlen; omega
      have HX : Hid (XS = Ck.withAt 0 ls) := by show _ = _; rw [hX, if_pos hq]
      clear hX hlen
      gi_wp2_with fail
      refine ⟨by simp, .inl ⟨_, _, rfl, run_takeDeferred HK.out, ?_⟩⟩
      have zw := HSZW.out
      refine ⟨_, results_none rfl _ _ _, ⟨_, rfl⟩, by rw [World.putObj_size]; omega, .inl ?_⟩
      rw [HX.out]
      exact hJ _ _ _ (by omega) HI.out.j ((Kept.refl _ _).putObj (by omega) _)
    · have hn : A < s.size := by have := List.length_pos_iff.2 hq; omega
      have HX : Hid (XS = Ck.withAt 0 ls ++ [(A, q)]) := by show _ = _; rw [hX, if_neg hq]
      have HE : Hid (encP (A, q) = #[.int .i64 (A : Int), .string (s.extract A s.size)]) := by
        show _ = _
        have hj := Ck.pieces_join (E := Ck.ends mn mx bt Rl.ofL) s.data.toList
        rw [hpc] at hj
        have : s.data.toList.drop A = q := by rw [← hj, ← hA, List.drop_left]
        rw [encP, Sv, ← this, ← drop_ext]
      have HY : Hid (∀ V2, Below V.heap.size V V2 → YieldAt Fence.wide 8 Tryz.prog l #[.int .i64 (A : Int), .string (s.extract A s.size)] V2 fun e W' =>
          ∃ bb, e = .returned (.bool bb) ∧ Kept (fun k => (k = bc ∨ k = bs) ∨ (W.heap.size ≤ k ∧ k < W.heap.size + 6)) V2 W' ∧ Hid (J XS W' ∨ Jx XS W')) := fun V2 hb => by
        have hs2 := hb.size
        have zw := HSZW.out
        have := hY (Ck.withAt 0 ls) (A, q) V2 (by omega) (by rw [HX.out]; exact List.prefix_rfl) (hJ _ _ _ (by omega) HI.out.j (Kept.of_below hb))
        rw [HE.out, ← HX.out] at this
        refine YieldAt.anyDepth' 8 (YieldAt.mono this ?_)
        rintro e W' ⟨hk, (⟨he, h⟩ | ⟨he, h⟩)⟩
        · exact ⟨true, he, hk, .inl h⟩
        · exact ⟨false, he, hk, .inr h⟩
      have hcl := fun V => ck_clone_any (s.extract A s.size) V (by rw [ByteArray.size_extract]; omega)
      generalize hpe : s.extract A s.size = piece at *
      have hmx : Tryz.prog.follows .mixedOrders = true := by kernel_rfl
      clear hX hlen hY
      gi_wp2_with fail
      have ct2 : ∀ X : Since V.heap.size V, X.val.cell? ⟨W.heap.size, 0, none⟩ = some (.func (.yield l) #[] #[]) := fun X => (X.property.cell (p := ⟨W.heap.size, 0, none⟩) HI.out.tell.lt).trans ct
      have cl2 : ∀ X : Since V.heap.size V, X.val.cell? ⟨W.heap.size + 1, 0, none⟩ = some (.int .i64 (A : Int)) := fun X => (X.property.cell (p := ⟨W.heap.size + 1, 0, none⟩) HL.out.lt).trans cl
      have cs2 : ∀ X : Since V.heap.size V, X.val.cell? ⟨bs, 0, none⟩ = some (.string s) := fun X => (X.property.cell (p := ⟨bs, 0, none⟩) HI.out.str.lt).trans cs
      have hne : Nonempty (Since V.heap.size V) := ⟨⟨V, Below.refl _ _⟩⟩
      refine wpIn_region_last (B := V.heap.size) (W0 := V) 6 _ rfl hmx (by kernel_rfl) (by kernel_rfl) (by kernel_rfl) (by kernel_rfl) (Below.refl _ _) ?_
      simp only [List.modify_succ_cons, List.modify_zero_cons, mute]
      repeat (go_big_quiet_step (fail))
      go_big_quiet_step (exact quiet_since _ (hcl _))
      repeat (go_big_quiet_step (fail))
      refine wpQuiet_nil ?_
      rintro w2 ⟨U, rfl⟩
      have hb2 := U.property
      obtain ⟨fn, tmps, assign, body, hy, hR⟩ := HY.out U.val hb2
      generalize U.val = w2 at *
      unfold wpOpIn
      simp only [List.getElem?_toArray, List.getElem?_cons_succ, List.getElem?_cons_zero, Region.wanted, if_true]
      refine ⟨fun _ _ => trivial, ?_⟩
      rw [show Fence.wide.round = none from rfl, Oper.semAt_none]
      go_simp
      refine hR.mono ?_
      rintro e w3 ⟨bb, rfl, hk3, hfin⟩
      have zw := HSZW.out
      have hlt : w.heap.size < V.heap.size := (Array.getElem?_eq_some_iff.1 HK.out).1
      have hK2 : w2.heap[w.heap.size]? = some (Obj.deferred (some [])) := (hb2.block _ hlt).trans HK.out
      have hK3 : w3.heap[w.heap.size]? = some (Obj.deferred (some [])) := hk3.obj (.inr (by omega)) hK2
      have hs3 := hk3.size
      have hs2 := hb2.size
      refine ⟨by simp, .inl ⟨_, _, rfl, run_takeDeferred hK3, ?_⟩⟩
      refine ⟨_, results_none rfl _ _ _, ⟨_, rfl⟩, by rw [World.putObj_size]; omega, ?_⟩
      rcases hfin.out with h | h
      · exact .inl (hJ _ _ _ (by omega) h ((Kept.refl _ _).putObj (by omega) _))
      · exact .inr ⟨XS, List.prefix_rfl, hJx _ _ _ (by omega) h ((Kept.refl _ _).putObj (by omega) _)⟩
  case stop =>
    rintro c pre V hV hpre ⟨rfl, hx⟩ hK
    gi_wp2_with fail
    refine ⟨by simp, .inl ⟨_, _, rfl, run_takeDeferred hK, ?_⟩⟩
    have zw := HSZW.out
    refine ⟨_, results_none rfl _ _ _, ⟨_, rfl⟩, by rw [World.putObj_size]; omega, .inr ⟨pre, ?_, hJx _ _ _ (by omega) hx ((Kept.refl _ _).putObj (by omega) _)⟩⟩
    rw [hX]
    split
    · exact hpre
    · exact hpre.trans (List.prefix_append _ _)
theorem withAt_cut {E : Ck.Bs → Bool} {t : Ck.Bs} {ls : List Ck.Bs} {q : Ck.Bs} (h : Ck.pieces E t = (ls, q)) : Ck.withAt 0 (Ck.cut E t) = if q = [] then Ck.withAt 0 ls else Ck.withAt 0 ls ++ [(ls.flatten.length, q)] := by
  rw [Ck.cut_of h]
  split
  · rfl
  · rw [Ck.withAt_append, Nat.zero_add]; rfl
theorem pieces1_all (mn mx bt : Nat) (hb1 : 1 ≤ bt) (hb2 : bt ≤ 12) (s : ByteArray) (hs : s.size ≤ 4096) (W : World) (bc bs : Nat) (hc : CutAt W bc mn mx bt) (hsb : Boxed W bs 9 (.string s)) :
    Tells Tryz.prog 125 #[.pointer (some ⟨bc, 0, none⟩), .pointer (some ⟨bs, 0, none⟩)] encP (Ck.withAt 0 (Ck.cut (Ck.ends mn mx bt Rl.ofL) s.data.toList)) 6 (fun k => k = bc ∨ k = bs) W := by
  obtain ⟨ls, q, h⟩ : ∃ ls q, Ck.pieces (Ck.ends mn mx bt Rl.ofL) s.data.toList = (ls, q) := ⟨_, _, rfl⟩
  exact pieces1_tells mn mx bt hb1 hb2 s hs W bc bs hc hsb ls q _ h (withAt_cut h)
set_option maxHeartbeats 400000 in
theorem pieces_any (mn mx bt : Int) (s : ByteArray) (w : World) :
    Calls Tryz.prog 113 #[cutV mn mx bt, .string s] w fun e w' => e = .returned (.func (.func 125) #[] #[.pointer (some ⟨w.heap.size, 0, none⟩), .pointer (some ⟨w.heap.size + 1, 0, none⟩)]) ∧
      CutAt w' w.heap.size mn mx bt ∧ Boxed w' (w.heap.size + 1) 9 (.string s) ∧ Below w.heap.size w w' ∧ w'.heap.size = w.heap.size + 2 := by
  unfold cutV
  go_enter Tryz.func113, Tryz.ntmps113
  go_wp2
  go_ret
  refine ⟨rfl, ?_, ?_, ((Below.refl _ w).alloc (Nat.le_refl _) _).alloc (by simp) _, by simp⟩
  · exact (Below.heap_alloc _ _ _ (by simp)).trans (World.alloc_heap_new w _)
  · have := World.alloc_heap_new (w.alloc (.cells #[.int .i64 mn, .int .i64 mx, .int .i64 bt] 43)) (.cells #[.string s] 9)
    rwa [World.size_alloc] at this
end Go.Proofs.YthpcbbkpjggjbaaGreatDoor
namespace Go.Proofs.YthpcbbkpjggjbaaGreatDoor
open Go.RowKit Go.Shelf
attribute [local go_sem] Oper.semAt_some
theorem box_appended {W w1 : World} {base B : Nat} {t e : TypeId} {size : Nat} {v v' : Value} {k m : Nat} {xs ys : List Value} {tmp : Obj} {p : Nat → Prop} (hv : Boxed W B t v) (hB : B < base)
    (hrow : W.ownsRow base e size v k xs) (hown' : w1.ownsRow base e size v' m ys) (hgrow : (W.alloc tmp).grownBy w1 v.ownBlock) (hp : ∀ k, p k → k ≠ B ∧ k < base) :
    Boxed w1 B t v ∧ Boxed (w1.setCell ⟨B, 0, none⟩ v') B t v' ∧ (w1.setCell ⟨B, 0, none⟩ v').ownsRow base e size v' m ys ∧ Kept p W (w1.setCell ⟨B, 0, none⟩ v') := by
  have hne : some B ≠ v.ownBlock := fun h => by have := (hrow.lt B h.symm).1; omega
  have hv1 : Boxed w1 B t v := (hv.alloc tmp).kept hgrow hne
  refine ⟨hv1, hv1.set v', ownsRow_setCell_below hown' hB v', ?_⟩
  refine (((Kept.refl p W).alloc tmp).grown hgrow fun j ej hpj => ?_).setCell (fun h => (hp _ h).1 rfl) v'
  have h1 := (hrow.lt j ej).1
  have h2 := (hp j hpj).2
  omega
theorem ck_own_kept {p : Nat → Prop} {A B : World} {base : Nat} {e : TypeId} {k : Nat} {v : Value} {n : Nat} {xs : List Value} (h : A.ownsRow base e k v n xs) (hk : Kept p A B) (hp : ∀ g, base ≤ g → p g) : B.ownsRow base e k v n xs := by
  obtain ⟨h1, h2⟩ := h
  refine ⟨h1, ?_⟩
  rcases h2 with h2 | ⟨g, cap, cur, hv, hg, hh, r⟩
  · exact .inl h2
  · exact .inr ⟨g, cap, cur, hv, hg, hk.obj (hp g hg) hh, r⟩
structure Got (n₀ : Nat) (w : World) (base bl : Nat) (l : List Ck.Bs) (V : World) : Prop where
  box : ∃ v, Boxed V bl 89 v ∧ V.ownsRow base 9 1 v l.length (l.map Sv)
  bel : Below n₀ w V
theorem Got.kept {p : Nat → Prop} {n₀ base bl : Nat} {w A B : World} {l : List Ck.Bs} (h : Got n₀ w base bl l A) (hk : Kept p A B) (hb : p bl) (hp : ∀ g, base ≤ g → p g) (hn : ∀ k, k < n₀ → p k) (hs : n₀ ≤ A.heap.size) : Got n₀ w base bl l B := by
  obtain ⟨⟨v, h1, h2⟩, h3⟩ := h
  exact ⟨⟨v, hk.boxed hb h1, ck_own_kept h2 hk hp⟩, h3.trans (hk.below hs hn)⟩
set_option maxRecDepth 100000 in
set_option maxHeartbeats 2000000 in
theorem cut_ok (mn mx bt : Nat) (hO : OkCut mn mx bt) (s : ByteArray) (hs : s.size ≤ 4096) (w : World) (L : List Ck.Bs) (hL : L = Ck.cut (Ck.ends mn mx bt Rl.ofL) s.data.toList) (hLl : L.length ≤ 4096) :
    Calls Tryz.prog 93 #[cutV mn mx bt, .string s] w fun e w' => ∃ v, e = .returned (.tuple #[v, .int .i64 0]) ∧ w'.ownsRow w.heap.size 9 1 v L.length (L.map Sv) ∧ Below w.heap.size w w' := by
  obtain ⟨i0, hi, hz0, hz1, hz2⟩ := info_parts info_str
  have hsz := size_any mn mx bt s.size
  rw [sizeN_zero.2 ⟨hO, by omega⟩] at hsz
  have hpa := pieces_any mn mx bt s
  unfold cutV at hsz hpa ⊢
  obtain ⟨W4, hW4⟩ : ∃ W4, W4 = w.alloc (Obj.cells #[Value.int IntKind.i64 mn, Value.int IntKind.i64 mx, Value.int IntKind.i64 bt] 43) := ⟨_, rfl⟩
  have hlw : w.heap.size < W4.heap.size := by rw [hW4]; simp
  have HB : Hid (Below w.heap.size w W4) := by rw [hW4]; exact (Below.refl _ w).alloc (Nat.le_refl _) _
  have HC : Hid (CutAt W4 w.heap.size mn mx bt) := by rw [hW4]; exact World.alloc_heap_new w _
  refine (callsIn_wide (n := 9)).1 ?_
  refine callsIn_of_wp_marks Tryz.func93 rfl trivial ?_ rfl
  simp only [Tryz.ntmps93, List.size_toArray, List.length_cons, List.length_nil, Nat.reduceAdd, Nat.reduceSub, Array.replicate_succ, Array.replicate_zero, List.push_toArray, List.append_toArray, List.nil_append, List.cons_append]
  gi_wp2_with fail
  rw [← hW4]
  refine ⟨trivial, (callsIn_wide.2 (hsz _)).mono ?_⟩
  rintro e w1 ⟨rfl, hb1⟩
  have hc1 : CutAt w1 w.heap.size mn mx bt := HC.out.kept (Kept.of_below (p := fun _ => True) hb1) trivial
  have HB1 : Hid (Below w.heap.size w w1) := HB.out.trans (hb1.mono (by omega))
  have hl1 : w.heap.size < w1.heap.size := by have := hb1.size; omega
  have c0 := hc1.c0
  have c1 := hc1.c1
  have c2 := hc1.c2
  obtain ⟨w1a, hw1a⟩ : ∃ w1a, w1a = w1.alloc (.cells #[.slice none 0 0] 89) := ⟨_, rfl⟩
  have HBX : Hid (Boxed w1a w1.heap.size 89 (.slice none 0 0)) := by rw [hw1a]; exact Boxed.new _ _ _
  have HB1a : Hid (Below w.heap.size w w1a) := by rw [hw1a]; exact HB1.out.alloc (by omega) _
  have HSZ : Hid (w1a.heap.size = w1.heap.size + 1) := by rw [hw1a]; simp [Hid]
  clear hb1 hc1 HB HC hsz HB1 hW4 hlw
  gi_wp2_with fail
  rw [← hw1a]
  refine ⟨trivial, (callsIn_wide.2 (hpa _)).mono ?_⟩
  rintro e w2 ⟨rfl, hC2, hS2, hb2, hsz2⟩
  obtain ⟨bc, hbc⟩ : ∃ bc, bc = w1a.heap.size := ⟨_, rfl⟩
  obtain ⟨bl, hbl⟩ : ∃ bl, bl = w1.heap.size := ⟨_, rfl⟩
  have HS : Hid (w.heap.size < bl ∧ bc = bl + 1 ∧ w2.heap.size = bl + 3) := by
    have := HSZ.out
    refine ⟨by omega, by omega, by omega⟩
  rw [← hbc] at hC2 hS2 ⊢
  have HI0 : Hid (Got w.heap.size w (w2.heap.size + 8) bl [] w2) := by
    refine ⟨⟨_, (Kept.of_below (p := fun _ => True) hb2).boxed trivial (by rw [hbl]; exact HBX.out), World.ownsRow_nil _ _ _ _⟩, HB1a.out.trans (hb2.mono HB1a.out.size)⟩
  rw [← hbl]
  clear hbc hbl HB1a HBX HSZ hw1a hb2 hsz2 c0 c1 c2 hpa hl1
  gi_wp2_with fail
  refine rf_outer (α := Nat × Ck.Bs) (m := 9) (gf := 125) (lb := #[.pointer (some ⟨bc, 0, none⟩), .pointer (some ⟨bc + 1, 0, none⟩)]) rfl (enters_of Tryz.func125 (by kernel_rfl) rfl)
    (encs := encP) (xs := Ck.withAt 0 L) (d := 6) (Kp := fun k => k = bc ∨ k = bc + 1)
    ?seq (by have z := HS.out; omega) (fun _ => rfl) (fun pre V => Got w.heap.size w (w2.heap.size + 8) bl (pre.map (·.2)) V) (fun _ _ _ => False) ?hI (fun _ _ _ _ _ h _ => h) HI0.out
    (fun x => { tmps := #[.agg #[.int .i64 mn, .int .i64 mx, .int .i64 bt], .string s, .pointer (some ⟨w.heap.size, 0, none⟩), undef, .slice none 0 0, .int .i64 0, .int .i64 0, .pointer (some ⟨bl, 0, none⟩), undef, Sv x.2,
      .agg #[.int .i64 mn, .int .i64 mx, .int .i64 bt], .string s, .int .i64 s.size, .int .i64 0, .int .i64 0, .bool false, undef, .agg #[.int .i64 mn, .int .i64 mx, .int .i64 bt], .string s,
      .func (.func 125) #[] #[.pointer (some ⟨bc, 0, none⟩), .pointer (some ⟨bc + 1, 0, none⟩)], .int .i64 (x.1 : Int), Sv x.2, undef, undef, undef, undef, undef], defers := [] }) ?assign ?body ?done ?stop
  case seq =>
    intro W1 hb hz
    have hk : Kept (fun _ => True) w2 W1 := Kept.of_below hb
    rw [hL]
    obtain ⟨_, _, _, h4, h5⟩ := hO
    exact pieces1_all mn mx bt (by omega) (by omega) s hs W1 bc (bc + 1) (hk.cutAt trivial hC2) (hk.boxed trivial hS2)
  case hI =>
    intro pre A V hA hg hk
    have z := HS.out
    exact hg.kept hk (by omega) (fun g hg => by omega) (fun k hk => by omega) (by omega)
  case assign =>
    intro l2 x V K hK
    simp only [encP]
    gi_wp2_with fail
    exact hK
  case body =>
    rintro l2 pre ⟨at', p⟩ V rfl hV hpre hg
    obtain ⟨pb, hpb⟩ : ∃ pb : ByteArray, pb = ⟨p.toArray⟩ := ⟨_, rfl⟩
    have HP : Hid (pb.data.toList = p) := by rw [hpb]; show _ = _; simp
    have hpl : (pre.map (·.2)).length ≤ 4096 := by
      have := hpre.length_le
      rw [Ck.withAt_length, List.length_append, List.length_singleton] at this
      rw [List.length_map]
      omega
    obtain ⟨⟨v, hv, hrow⟩, hbel⟩ := hg
    have hvc := hv.cell
    simp only [Sv, ← hpb]
    have HPE : Hid ((pre ++ [(at', p)]).map (·.2) = pre.map (·.2) ++ [pb.data.toList]) := by show _ = _; rw [HP.out]; simp
    generalize pre.map (·.2) = l at *
    clear hpb hpre HI0 hC2 hS2
    gi_wp2_with (gi_at_builtin; refine wpListIn_append_own _ rfl _ _ 89 rfl (w2.heap.size + 8) 9 i0 (.string ⟨#[]⟩) 1 16 Tryz.underlying89 hi hz0 hz1 hz2 rfl (by decide) _ _ _ rfl (hrow.alloc _) ⟨V.heap.size, 0, none⟩ 1 1 [.string pb] rfl rfl ?c1 ?c2 ?c3 ?c4 ?c5 ?_)
    case c1 =>
      intro j u hj
      match j, hj with
      | 0, hj => simp at hj; subst hj; simp [Addr.add]
    case c2 => intro u hu; simp at hu; subst hu; rfl
    case c3 => unfold maxLen; omega
    case c4 => omega
    case c5 => simp; omega
    intro v' w5 hown1 hgrow _
    have hss := HS.out
    obtain ⟨hv1, hv2, hr2, hk2⟩ := box_appended (p := fun k => k = w2.heap.size ∨ k = w2.heap.size + 1 ∨ ((k = bc ∨ k = bc + 1) ∨ (w2.heap.size + 2 ≤ k ∧ k < w2.heap.size + 2 + 6))) hv (by omega) hrow hown1 hgrow (fun k hk => by omega)
    obtain ⟨_, _, _, hk3⟩ := box_appended (p := fun k => k < w.heap.size) hv (by omega) hrow hown1 hgrow (fun k hk => by omega)
    have HK2 : Hid (Kept (fun k => k = w2.heap.size ∨ k = w2.heap.size + 1 ∨ ((k = bc ∨ k = bc + 1) ∨ (w2.heap.size + 2 ≤ k ∧ k < w2.heap.size + 2 + 6))) V (w5.setCell ⟨bl, 0, none⟩ v')) := hk2
    have HB5 : Hid (Below w.heap.size w (w5.setCell ⟨bl, 0, none⟩ v')) := hbel.trans (hk3.below hbel.size (fun k hk => hk))
    obtain ⟨g', cap', rfl⟩ := ownsRow_succ hown1
    have hc1 := hv1.cell
    have hf1 := hv1.frozen
    have HR : Hid ((w5.setCell ⟨bl, 0, none⟩ (.slice (some ⟨g', 0, none⟩) (l.length + 1) cap')).ownsRow (w2.heap.size + 8) 9 1 (.slice (some ⟨g', 0, none⟩) (l.length + 1) cap') (l ++ [pb.data.toList]).length ((l ++ [pb.data.toList]).map Sv)) := by
      have := hr2
      simpa [Sv, Hid] using this
    have HV : Hid (Boxed (w5.setCell ⟨bl, 0, none⟩ (.slice (some ⟨g', 0, none⟩) (l.length + 1) cap')) bl 89 (.slice (some ⟨g', 0, none⟩) (l.length + 1) cap')) := hv2
    clear hss hk2 hk3 hr2 hv2 hown1 hgrow hv1 hbel hrow hv hvc
    gi_wp2_with fail
    exact ⟨HK2.out, by show Got _ _ _ _ ((pre ++ [(at', p)]).map (·.2)) _; rw [HPE.out]; exact ⟨⟨_, HV.out, HR.out⟩, HB5.out⟩⟩
  case done =>
    intro V hV hg hK
    clear hL
    rw [Ck.withAt_snd] at hg
    obtain ⟨⟨v, hv, hrow⟩, hbel⟩ := hg
    have hvc := hv.cell
    have HR : Hid (V.ownsRow (w2.heap.size + 8) 9 1 v L.length (L.map Sv)) := hrow
    have HB : Hid (Below w.heap.size w V) := hbel
    have HK : Hid (V.heap[w2.heap.size]? = some (Obj.deferred (some []))) := hK
    rcases hrow.2 with ⟨rfl, h0⟩ | ⟨g, cap, cur, rfl, _⟩
    · clear hrow hbel hK hv HI0 hC2 hS2
      gi_wp2_with fail
      refine ⟨by simp, .inl ⟨_, _, rfl, run_takeDeferred HK.out, ?_⟩⟩
      have z := HS.out
      refine ⟨_, results_tmp2 rfl _ _ _, _, rfl, own_lower (ck_own_kept HR.out ((Kept.refl (fun k => k ≠ w2.heap.size) _).putObj (fun h => h rfl) _) (fun g hg => by omega)) (by omega), HB.out.trans (((Kept.refl (fun k => k ≠ w2.heap.size) _).putObj (fun h => h rfl) _).below HB.out.size (fun k hk => by omega))⟩
    · clear hrow hbel hK hv HI0 hC2 hS2
      gi_wp2_with fail
      refine ⟨by simp, .inl ⟨_, _, rfl, run_takeDeferred HK.out, ?_⟩⟩
      have z := HS.out
      refine ⟨_, results_tmp2 rfl _ _ _, _, rfl, own_lower (ck_own_kept HR.out ((Kept.refl (fun k => k ≠ w2.heap.size) _).putObj (fun h => h rfl) _) (fun g hg => by omega)) (by omega), HB.out.trans (((Kept.refl (fun k => k ≠ w2.heap.size) _).putObj (fun h => h rfl) _).below HB.out.size (fun k hk => by omega))⟩
  case stop =>
    intro c pre V _ _ h _
    exact h.elim
set_option maxHeartbeats 1000000 in
theorem cut_no (mn mx bt : Int) (s : ByteArray) (w : World) (k : Int) (hk : sizeN mn mx bt s.size = k) (h0 : k ≠ 0) :
    Calls Tryz.prog 93 #[cutV mn mx bt, .string s] w fun e w' => e = .returned (.tuple #[.slice none 0 0, .int .i64 k]) ∧ Below w.heap.size w w' := by
  have hsz := size_any mn mx bt s.size
  rw [hk] at hsz
  have hq : (k != 0) = true := by rw [bne_iff_ne]; exact h0
  clear hk
  unfold cutV at hsz ⊢
  go_enter Tryz.func93, Tryz.ntmps93
  go_wp2_with fail
  refine (hsz _).mono ?_
  rintro e w1 ⟨rfl, hb1⟩
  have hB1 := below_past hb1
  clear hb1
  go_wp2_with fail
  go_ret2
  exact ⟨rfl, hB1⟩
theorem cutL_le (mn mx bt : Nat) (h1 : 1 ≤ mn) (hm : mn ≤ mx) (s : ByteArray) (hs : s.size ≤ 4096) : (Ck.cut (Ck.ends mn mx bt Rl.ofL) s.data.toList).length ≤ 4096 := by
  have hj := congrArg List.length (Ck.cut_join (E := Ck.ends mn mx bt Rl.ofL) s.data.toList)
  rw [← Lib.size_eq] at hj
  have hp := fun j hj => Ck.cut_size (mn := mn) (mx := mx) (bits := bt) (sum := Rl.ofL) (by omega) hm s.data.toList (j := j) hj
  generalize Ck.cut (Ck.ends mn mx bt Rl.ofL) s.data.toList = l at *
  have key : ∀ l : List Ck.Bs, (∀ p ∈ l, 1 ≤ p.length) → l.length ≤ l.flatten.length := by
    intro l
    induction l with
    | nil => intro _; simp
    | cons p l ih =>
      intro h
      have a := ih (fun p hp => h p (List.mem_cons_of_mem _ hp))
      have b := h p (List.mem_cons_self)
      rw [List.flatten_cons, List.length_append, List.length_cons]; omega
  have := key l (fun p hm => by
    obtain ⟨j, hj, rfl⟩ := List.mem_iff_getElem.1 hm
    exact (hp j hj).1)
  omega
theorem ck_cut_any (mn mx bt : Int) (s : ByteArray) (w : World) :
    Calls Tryz.prog 93 #[cutV mn mx bt, .string s] w fun e w' => ∃ v, e = .returned (.tuple #[v, .int .i64 (sizeN mn mx bt s.size)]) ∧
      w'.ownsRow w.heap.size 9 1 v (cutL mn mx bt s).length ((cutL mn mx bt s).map Sv) ∧ Below w.heap.size w w' := by
  by_cases h : sizeN mn mx bt s.size = 0
  · obtain ⟨hO, hs⟩ := sizeN_zero.1 h
    rw [cutL, if_pos h, h]
    obtain ⟨mn, rfl⟩ := Int.eq_ofNat_of_zero_le (show 0 ≤ mn by have := hO.1; omega)
    obtain ⟨mx, rfl⟩ := Int.eq_ofNat_of_zero_le (show 0 ≤ mx by have := hO.1; have := hO.2.1; omega)
    obtain ⟨bt, rfl⟩ := Int.eq_ofNat_of_zero_le (show 0 ≤ bt by have := hO.2.2.2.1; omega)
    simp only [Int.toNat_natCast]
    exact cut_ok mn mx bt hO s (by omega) w _ rfl (cutL_le mn mx bt (by have := hO.1; omega) (by have := hO.2.1; omega) s (by omega))
  · rw [cutL, if_neg h]
    refine (cut_no mn mx bt s w _ rfl h).mono ?_
    rintro e w' ⟨rfl, hb⟩
    exact ⟨_, rfl, World.ownsRow_nil _ _ _ _, hb⟩
end Go.Proofs.YthpcbbkpjggjbaaGreatDoor
namespace Go.Proofs.YthpcbbkpjggjbaaGreatDoor
open Go.RowKit
set_option maxRecDepth 4000
def fixN (n len : Int) : Int := if n < 1 ∨ 1024 < n then 1 else if len ≤ 4096 then 0 else 2
def fixL (n : Int) (s : ByteArray) : List Ck.Bs := if fixN n s.size = 0 then Ck.fixed n.toNat s.data.toList else []
theorem fix_at (n : Nat) (s : ByteArray) (k : Nat) : (s.extract (k * n) (min (k * n + n) s.size)).data.toList = (s.data.toList.drop (k * n)).take n := by
  rw [ext_eq]
  show List.take _ _ = _
  by_cases h : k * n + n ≤ s.size
  · rw [Nat.min_eq_left h, show k * n + n - k * n = n from by omega]
  · rw [Nat.min_eq_right (by omega), List.take_of_length_le (by rw [List.length_drop, ← Lib.size_eq]; exact Nat.le_refl _), List.take_of_length_le (by rw [List.length_drop, ← Lib.size_eq]; omega)]
set_option maxHeartbeats 1000000 in
theorem fixed_of (n m : Nat) (F : Nat → List Ck.Bs) (s : ByteArray) (w : World) (h1 : 1 ≤ n) (h2 : n ≤ 1024) (hs : s.size ≤ 4096)
    (hm : ∀ k, k < m ↔ k * n < s.size) (hF0 : F 0 = []) (hFl : ∀ k, (F k).length = k) (hFs : ∀ k, F (k + 1) = F k ++ [(s.extract (k * n) (min (k * n + n) s.size)).data.toList]) :
    Calls Tryz.prog 94 #[.int .i64 n, .string s] w fun e w' => ∃ v, e = .returned (.tuple #[v, .int .i64 0]) ∧ w'.ownsRow w.heap.size 9 1 v (F m).length ((F m).map Sv) ∧ Below w.heap.size w w' := by
  obtain ⟨i0, hi, hz0, hz1, hz2⟩ := info_parts info_str
  go_enter Tryz.func94, Tryz.ntmps94
  go_wp2_with fail
  go_loopw [6, 7] (fun v i wr => ∃ k A : Nat, k ≤ m ∧ Hid (A = k * n) ∧ i = .int .i64 A ∧ wr.ownsRow w.heap.size 9 1 v (F k).length ((F k).map Sv) ∧ Below w.heap.size w wr) (fun _ i _ => s.size - (intOf i).toNat)
  case atStart => exact ⟨0, 0, Nat.zero_le _, by show 0 = _; omega, rfl, by rw [hF0]; exact World.ownsRow_nil _ _ _ _, Below.refl _ _⟩
  case round =>
    obtain ⟨k, A, hk, HA, rfl, hown, hbel⟩ := hrel
    have hbs := hbel.size
    by_cases hlt : k < m
    · have hA : A < s.size := by rw [HA.out]; exact (hm k).1 hlt
      have hAk : k ≤ A := by rw [HA.out]; exact Nat.le_mul_of_pos_right k (by omega)
      obtain ⟨D, hD⟩ : ∃ D, D = min (A + n) s.size := ⟨_, rfl⟩
      have hmin : min ((A : Int) + (n : Int)) (s.size : Int) = (D : Int) := by omega
      have hD1 : A ≤ D := by omega
      have hD2 : D ≤ s.size := by omega
      have HF : Hid (F (k + 1) = F k ++ [(s.extract A D).data.toList]) := by show _ = _; rw [hD, HA.out]; exact hFs k
      have HA1 : Hid (A + n = (k + 1) * n) := by show _ = _; rw [Nat.succ_mul, ← HA.out]
      have hFk : (F k).length ≤ k := Nat.le_of_eq (hFl k)
      generalize F k = L at *
      clear hm hFs hFl hD
      generalize hpe : s.extract A D = piece at *
      have hcl := fun V => ck_clone_any piece V (by rw [← hpe, ByteArray.size_extract]; omega)
      go_wp2_with fail
      refine (hcl _).mono ?_
      rintro e w3 ⟨rfl, hb3⟩
      have hown3 := own_below hown hb3
      have hB3 := hbel.trans (hb3.mono hbel.size)
      have hs3 := hB3.size
      clear hb3 hown hbel hcl
      go_wp2_with (at_builtin; refine wpList_append_own _ rfl _ _ 89 rfl w.heap.size 9 i0 (.string ⟨#[]⟩) 1 16 Tryz.underlying89 hi hz0 hz1 hz2 rfl (by decide) _ _ _ rfl (hown3.alloc _) ⟨w3.heap.size, 0, none⟩ 1 1 [.string piece] rfl rfl ?c1 ?c2 ?c3 ?c4 ?c5 ?_)
      case c1 =>
        intro j u hj
        match j, hj with
        | 0, hj => simp at hj; subst hj; simp [Addr.add]
      case c2 => intro u hu; simp at hu; subst hu; rfl
      case c3 => unfold maxLen; omega
      case c4 => omega
      case c5 => simp; omega
      intro v' w1 hown1 hgrow _
      have R := own_str hown3 hown1 hgrow hB3 (Nat.le_refl _)
      have HR1 : Hid (w1.ownsRow w.heap.size 9 1 v' (F (k + 1)).length ((F (k + 1)).map Sv)) := by rw [HF.out]; exact R.1
      have HR2 : Hid (Below w.heap.size w w1) := R.2
      clear R hown1 hgrow hown3 hB3
      go_wp2_with fail
      go_roundw
      case rel => exact ⟨k + 1, A + n, by omega, HA1, by go_num, HR1.out, HR2.out⟩
      case measure => simp only [intOf]; omega
    · obtain rfl : k = m := by omega
      have hA : s.size ≤ A := by
        rw [HA.out]
        have := (hm k).2
        omega
      go_wp2_with fail
      go_ret2
      exact ⟨_, rfl, hown, hbel⟩
theorem fix_sum (n : Nat) (s : ByteArray) (h1 : 1 ≤ n) : (∀ k, k < Ck.many n s.size ↔ k * n < s.size) ∧ Ck.fx n s.data.toList 0 = [] ∧ (∀ k, (Ck.fx n s.data.toList k).length = k) ∧
    (∀ k, Ck.fx n s.data.toList (k + 1) = Ck.fx n s.data.toList k ++ [(s.extract (k * n) (min (k * n + n) s.size)).data.toList]) ∧ Ck.fx n s.data.toList (Ck.many n s.size) = Ck.fixed n s.data.toList :=
  ⟨fun k => Ck.many_lt (by omega), rfl, fun k => Ck.fx_length _ _ _, fun k => by rw [fix_at, Ck.fx_succ], by rw [Ck.fixed, ← Lib.size_eq]⟩
theorem fixN_one {n len : Int} (h : n < 1 ∨ 1024 < n) : fixN n len = 1 := if_pos h
theorem fixN_two {n len : Int} (h : ¬ (n < 1 ∨ 1024 < n)) (h2 : 4096 < len) : fixN n len = 2 := by rw [fixN, if_neg h, if_neg (by omega)]
theorem fixN_zero {n len : Int} (h : ¬ (n < 1 ∨ 1024 < n)) (h2 : len ≤ 4096) : fixN n len = 0 := by rw [fixN, if_neg h, if_pos h2]
set_option maxHeartbeats 1000000 in
theorem fixed_one (n : Int) (s : ByteArray) (w : World) (h : n < 1 ∨ 1024 < n) :
    Calls Tryz.prog 94 #[.int .i64 n, .string s] w fun e w' => e = .returned (.tuple #[.slice none 0 0, .int .i64 1]) ∧ w' = w := by
  rcases h with h | h
  · go_enter Tryz.func94, Tryz.ntmps94
    go_wp2_with fail
    go_ret2
    exact ⟨rfl, rfl⟩
  · go_enter Tryz.func94, Tryz.ntmps94
    go_wp2_with fail
    go_ret2
    exact ⟨rfl, rfl⟩
set_option maxHeartbeats 1000000 in
theorem fixed_two (n : Int) (s : ByteArray) (w : World) (h1 : 1 ≤ n) (h2 : n ≤ 1024) (h3 : 4096 < s.size) :
    Calls Tryz.prog 94 #[.int .i64 n, .string s] w fun e w' => e = .returned (.tuple #[.slice none 0 0, .int .i64 2]) ∧ w' = w := by
  go_enter Tryz.func94, Tryz.ntmps94
  go_wp2_with fail
  go_ret2
  exact ⟨rfl, rfl⟩
theorem fixed_any (n : Int) (s : ByteArray) (w : World) :
    Calls Tryz.prog 94 #[.int .i64 n, .string s] w fun e w' => ∃ v, e = .returned (.tuple #[v, .int .i64 (fixN n s.size)]) ∧ w'.ownsRow w.heap.size 9 1 v (fixL n s).length ((fixL n s).map Sv) ∧ Below w.heap.size w w' := by
  by_cases h : n < 1 ∨ 1024 < n
  · refine (fixed_one n s w h).mono ?_
    rintro e w' ⟨rfl, rfl⟩
    rw [fixL, fixN_one h, if_neg (by omega)]
    exact ⟨_, rfl, World.ownsRow_nil _ _ _ _, Below.refl _ _⟩
  · by_cases hs : s.size ≤ 4096
    · obtain ⟨m, rfl⟩ := Int.eq_ofNat_of_zero_le (show 0 ≤ n by omega)
      obtain ⟨a, b, c, d, e⟩ := fix_sum m s (by omega)
      have := fixed_of m _ _ s w (by omega) (by omega) hs a b c d
      rw [e] at this
      rw [fixL, fixN_zero h (by omega), if_pos rfl]
      exact this
    · refine (fixed_two n s w (by omega) (by omega) (by omega)).mono ?_
      rintro e w' ⟨rfl, rfl⟩
      rw [fixL, fixN_two h (by omega), if_neg (by omega)]
      exact ⟨_, rfl, World.ownsRow_nil _ _ _ _, Below.refl _ _⟩
end Go.Proofs.YthpcbbkpjggjbaaGreatDoor
namespace Go.Proofs.YthpcbbkpjggjbaaGreatDoor
open Go.RowKit
set_option maxRecDepth 4000
abbrev wayV (fx mn mx bt : Int) : Value := .agg #[.int .i64 fx, .int .i64 mn, .int .i64 mx, .int .i64 bt]
def wayN (fx mn mx bt : Int) : Int := if fx = 0 then okN mn mx bt else if fx < 16 ∨ 1024 < fx then 1 else 0
def cutW (fx mn mx bt : Int) (s : ByteArray) : List Ck.Bs := if fx = 0 then cutL mn mx bt s else fixL fx s
def cutF (fx mn mx bt : Int) (s : List UInt8) : List (List UInt8) := cutW fx mn mx bt ⟨s.toArray⟩
theorem cutF_of (fx mn mx bt : Int) (s : ByteArray) : cutF fx mn mx bt s.data.toList = cutW fx mn mx bt s := rfl
theorem okN_ok {mn mx bt : Int} (h : okN mn mx bt = 0) : OkCut mn mx bt := by
  unfold okN at h
  by_cases q : OkCut mn mx bt
  · exact q
  · rw [if_neg q] at h; cases h
theorem cutW_fixed {fx mn mx bt : Int} (h0 : fx ≠ 0) (h : wayN fx mn mx bt = 0) (s : ByteArray) (hs : s.size ≤ 4096) : 16 ≤ fx ∧ fx ≤ 1024 ∧ cutW fx mn mx bt s = Ck.fixed fx.toNat s.data.toList := by
  unfold wayN at h
  rw [if_neg h0] at h
  split at h
  · cases h
  rename_i q
  refine ⟨by omega, by omega, ?_⟩
  unfold cutW fixL
  rw [if_neg h0, if_pos]
  unfold fixN
  rw [if_neg (by omega), if_pos (by omega)]
theorem cutW_cut {fx mn mx bt : Int} (h0 : fx = 0) (h : wayN fx mn mx bt = 0) (s : ByteArray) (hs : s.size ≤ 4096) : OkCut mn mx bt ∧ cutW fx mn mx bt s = Ck.cut (Ck.ends mn.toNat mx.toNat bt.toNat Rl.ofL) s.data.toList := by
  unfold wayN at h
  rw [if_pos h0] at h
  have hO := okN_ok h
  refine ⟨hO, ?_⟩
  unfold cutW cutL
  rw [if_pos h0, if_pos (sizeN_zero.2 ⟨hO, by omega⟩)]
theorem cutF_join {fx mn mx bt : Int} (h : wayN fx mn mx bt = 0) (s : List UInt8) (hs : s.length ≤ 4096) : (cutF fx mn mx bt s).flatten = s := by
  unfold cutF
  by_cases h0 : fx = 0
  · rw [(cutW_cut h0 h ⟨s.toArray⟩ (by rw [Lib.size_eq]; simpa using hs)).2]
    exact Ck.cut_join _
  · obtain ⟨h1, _, e⟩ := cutW_fixed h0 h ⟨s.toArray⟩ (by rw [Lib.size_eq]; simpa using hs)
    rw [e]
    exact Ck.fixed_join (by omega) _
theorem flat_many (m : Nat) : ∀ (l : List (List UInt8)), (∀ (j : Nat) (hj : j < l.length), j + 1 < l.length → m ≤ (l[j]).length) → (l.length - 1) * m ≤ l.flatten.length
  | [], _ => by simp
  | [a], _ => by simp
  | a :: b :: l, h => by
    have h0 := h 0 (by simp) (by simp)
    have ih := flat_many m (b :: l) fun j hj hj2 => h (j + 1) (by simpa using hj) (by simpa using hj2)
    rw [List.flatten_cons, List.length_append]
    have e : (a :: b :: l).length - 1 = ((b :: l).length - 1) + 1 := by simp
    rw [e, Nat.add_mul, Nat.one_mul]
    have h0 : m ≤ a.length := h0
    omega
theorem cutF_few {fx mn mx bt : Int} (h : wayN fx mn mx bt = 0) (s : List UInt8) (hs : s.length ≤ 4096) : (cutF fx mn mx bt s).length ≤ s.length / 16 + 1 := by
  have hj := cutF_join h s hs
  have hm : ((cutF fx mn mx bt s).length - 1) * 16 ≤ (cutF fx mn mx bt s).flatten.length := by
    refine flat_many 16 _ fun j hj1 hj2 => ?_
    by_cases h0 : fx = 0
    · obtain ⟨hO, e⟩ := cutW_cut h0 h ⟨s.toArray⟩ (by rw [Lib.size_eq]; simpa using hs)
      have e : cutF fx mn mx bt s = _ := e
      obtain ⟨o1, o2, o3, _⟩ := hO
      have hl1 : j < (Ck.cut (Ck.ends mn.toNat mx.toNat bt.toNat Rl.ofL) s).length := by rw [e] at hj1; exact hj1
      have := Ck.cut_size (mn := mn.toNat) (mx := mx.toNat) (bits := bt.toNat) (sum := Rl.ofL) (by omega) (by omega) s hl1
      have hg : (cutF fx mn mx bt s)[j] = (Ck.cut (Ck.ends mn.toNat mx.toNat bt.toNat Rl.ofL) s)[j] := by congr 1
      rw [hg]
      have hl2 : j + 1 < (Ck.cut (Ck.ends mn.toNat mx.toNat bt.toNat Rl.ofL) s).length := by rw [e] at hj2; exact hj2
      have := this.2.2 hl2
      omega
    · obtain ⟨h1, h2, e⟩ := cutW_fixed h0 h ⟨s.toArray⟩ (by rw [Lib.size_eq]; simpa using hs)
      have e : cutF fx mn mx bt s = _ := e
      have hl1 : j < (Ck.fixed fx.toNat s).length := by rw [e] at hj1; exact hj1
      have hl2 : j + 1 < (Ck.fixed fx.toNat s).length := by rw [e] at hj2; exact hj2
      have := (Ck.fixed_size (n := fx.toNat) (s := s) (by omega) hl1).2.2 hl2
      have hg : (cutF fx mn mx bt s)[j] = (Ck.fixed fx.toNat s)[j] := by congr 1
      rw [hg]
      omega
  rw [hj] at hm
  omega
set_option maxHeartbeats 1000000 in
theorem wayok_any (fx mn mx bt : Int) (w : World) :
    Calls Tryz.prog 32 #[wayV fx mn mx bt] w fun e w' => e = .returned (.int .i64 (wayN fx mn mx bt)) ∧ Below w.heap.size w w' := by
  have hc := fun W => ok_any mn mx bt W
  unfold cutV at hc
  unfold wayN
  by_cases h0 : fx = 0
  · subst h0
    rw [if_pos rfl]
    generalize okN mn mx bt = K at *
    go_enter Tryz.func32, Tryz.ntmps32
    go_wp2_with fail
    refine (hc _).mono ?_
    rintro e w1 ⟨rfl, b1⟩
    have HB : Hid (Below w.heap.size w w1) := below_past b1
    clear b1 hc
    go_wp2_with fail
    go_ret
    exact ⟨rfl, HB.out⟩
  · rw [if_neg h0]
    have e0 : (fx == 0) = false := beq_eq_false_iff_ne.2 h0
    clear hc h0
    have HB : Hid (∀ o, Below w.heap.size w (w.alloc o)) := fun o => (Below.refl _ w).alloc (Nat.le_refl _) o
    by_cases h1 : fx < 16
    · rw [if_pos (.inl h1)]
      go_enter Tryz.func32, Tryz.ntmps32
      go_wp2_with fail
      go_ret
      exact ⟨rfl, HB.out _⟩
    by_cases h2 : 1024 < fx
    · rw [if_pos (.inr h2)]
      go_enter Tryz.func32, Tryz.ntmps32
      go_wp2_with fail
      go_ret
      exact ⟨rfl, HB.out _⟩
    rw [if_neg (by omega)]
    go_enter Tryz.func32, Tryz.ntmps32
    go_wp2_with fail
    go_ret
    exact ⟨rfl, HB.out _⟩
set_option maxHeartbeats 1000000 in
theorem wcut_any (fx mn mx bt : Int) (s : ByteArray) (w : World) :
    Calls Tryz.prog 76 #[wayV fx mn mx bt, .string s] w fun e w' => ∃ v, e = .returned v ∧ w'.ownsRow (w.heap.size + 1) 9 1 v (cutW fx mn mx bt s).length ((cutW fx mn mx bt s).map Sv) ∧ Below w.heap.size w w' := by
  obtain ⟨W1, hW1⟩ : ∃ W1, W1 = w.alloc (.cells #[.int .i64 fx, .int .i64 mn, .int .i64 mx, .int .i64 bt] 45) := ⟨_, rfl⟩
  have HB1 : Hid (Below w.heap.size w W1) := by rw [hW1]; exact (Below.refl _ w).alloc (Nat.le_refl _) _
  have HS1 : Hid (W1.heap.size = w.heap.size + 1) := by show _ = _; rw [hW1]; simp
  have c0 : W1.cell? ⟨w.heap.size, 0, none⟩ = some (.int .i64 fx) := by rw [hW1]; simp
  have c1 : W1.cell? ⟨w.heap.size, 1, none⟩ = some (.int .i64 mn) := by rw [hW1]; simp
  have c2 : W1.cell? ⟨w.heap.size, 2, none⟩ = some (.int .i64 mx) := by rw [hW1]; simp
  have c3 : W1.cell? ⟨w.heap.size, 3, none⟩ = some (.int .i64 bt) := by rw [hW1]; simp
  unfold cutW
  by_cases h0 : fx = 0
  · have hc := ck_cut_any mn mx bt s W1
    rw [HS1.out] at hc
    unfold cutV at hc
    rw [if_pos h0]
    have e0 : (fx == 0) = true := by rw [beq_iff_eq]; exact h0
    clear h0
    generalize sizeN mn mx bt s.size = K at *
    generalize cutL mn mx bt s = L at *
    go_enter Tryz.func76, Tryz.ntmps76
    go_wp2_with fail
    rw [← hW1]
    clear hW1
    go_wp2_with fail
    refine hc.mono ?_
    rintro e w2 ⟨v, rfl, h2, b2⟩
    have HO : Hid (w2.ownsRow (w.heap.size + 1) 9 1 v L.length (L.map Sv)) := h2
    have HB2 : Hid (Below w.heap.size w w2) := HB1.out.trans (b2.mono (by omega))
    obtain ⟨a, c, rfl⟩ := own_form h2
    generalize hN : L.length = n at *
    clear h2 b2 hc c0 c1 c2 c3
    go_wp2_with fail
    go_ret
    subst hN
    exact ⟨_, rfl, HO.out, HB2.out⟩
  · have hc := fixed_any fx s W1
    rw [HS1.out] at hc
    rw [if_neg h0]
    have e0 : (fx == 0) = false := beq_eq_false_iff_ne.2 h0
    clear h0
    generalize fixN fx s.size = K at *
    generalize fixL fx s = L at *
    go_enter Tryz.func76, Tryz.ntmps76
    go_wp2_with fail
    rw [← hW1]
    clear hW1
    go_wp2_with fail
    refine hc.mono ?_
    rintro e w2 ⟨v, rfl, h2, b2⟩
    have HO : Hid (w2.ownsRow (w.heap.size + 1) 9 1 v L.length (L.map Sv)) := h2
    have HB2 : Hid (Below w.heap.size w w2) := HB1.out.trans (b2.mono (by omega))
    obtain ⟨a, c, rfl⟩ := own_form h2
    generalize hN : L.length = n at *
    clear h2 b2 hc c0 c1 c2 c3
    go_wp2_with fail
    go_ret
    subst hN
    exact ⟨_, rfl, HO.out, HB2.out⟩
end Go.Proofs.YthpcbbkpjggjbaaGreatDoor
namespace Go.Proofs.YthpcbbkpjggjbaaGreatDoor
open Go.RowKit
structure Kt (T : TypeId) (A B : World) : Prop where
  os : B.os = A.os
  tape : B.tape = A.tape
  output : B.output = A.output
  size : A.heap.size ≤ B.heap.size
  obj : ∀ (k : Nat) (o : Obj), A.heap[k]? = some o → (¬ ∃ cur fr, o = .cells cur T fr) → B.heap[k]? = some o
section
variable {T T' : TypeId} {A B C : World}
theorem Kt.refl (T : TypeId) (A : World) : Kt T A A := ⟨rfl, rfl, rfl, Nat.le_refl _, fun _ _ h _ => h⟩
theorem Kt.trans (h : Kt T A B) (k : Kt T B C) : Kt T A C :=
  ⟨k.os.trans h.os, k.tape.trans h.tape, k.output.trans h.output, Nat.le_trans h.size k.size, fun i _ ho hn => k.obj i _ (h.obj i _ ho hn) hn⟩
theorem Kt.of_below (h : Below A.heap.size A B) : Kt T A B := ⟨h.os, h.tape, h.output, h.size, fun k _ ho _ => (h.block k (Array.getElem?_eq_some_iff.1 ho).1).trans ho⟩
theorem Kt.of_grown {row : Option Nat} (h : A.grownBy B row) (hr : ∀ g, row = some g → ∃ cur fr, A.heap[g]? = some (.cells cur T fr)) : Kt T A B :=
  ⟨h.os, h.tape, h.output, h.size, fun k _ ho hn => (h.block k (Array.getElem?_eq_some_iff.1 ho).1 (fun e => by
    obtain ⟨cur, fr, hc⟩ := hr k e.symm
    rw [hc] at ho
    cases ho
    exact hn ⟨_, _, rfl⟩)).trans ho⟩
theorem Kt.alloc (h : Kt T A B) (o : Obj) : Kt T A (B.alloc o) := h.trans (Kt.of_below ((Below.refl _ B).alloc (Nat.le_refl _) o))
theorem Kt.set {g : Nat} {cur : Array Value} {fr : Nat × Nat} (h : B.heap[g]? = some (.cells cur T fr)) (j : Nat) (x : Value) : Kt T B (B.setCell ⟨g, j, none⟩ x) :=
  ⟨rfl, rfl, rfl, by simp [World.setCell], fun k _ ho hn => (Below.heap_setCell _ _ _ _ (fun e => by
    have e : k = g := e
    subst e
    rw [h] at ho
    cases ho
    exact hn ⟨_, _, rfl⟩)).trans ho⟩
theorem Kt.cell (h : Kt T A B) {k : Nat} {cur : Array Value} {fr : Nat × Nat} (ho : A.heap[k]? = some (.cells cur T' fr)) (hne : T' ≠ T) : B.heap[k]? = some (.cells cur T' fr) :=
  h.obj k _ ho (fun ⟨_, _, e⟩ => by cases e; exact hne rfl)
end
structure Ry {α : Type} (k : Nat) (T : TypeId) (R : World → α → List Value → Prop) (w : World) (v : Value) (l : List α) : Prop where
  at_ : ((∃ a c, v = .slice a 0 c) ∧ l = []) ∨ ∃ bk o cap, v = .slice (some ⟨bk, o, none⟩) l.length cap ∧ l.length ≤ cap ∧ (∃ cur fr, w.heap[bk]? = some (.cells cur T fr)) ∧
    ∀ j t, l[j]? = some t → ∃ c : List Value, c.length = k ∧ R w t c ∧ ∀ r u, c[r]? = some u → w.cell? ⟨bk, o + j * k + r, none⟩ = some u
section
variable {α : Type} {k : Nat} {T : TypeId} {R : World → α → List Value → Prop} {w W : World} {v : Value} {l : List α}
theorem Ry.nil (a : Option Addr) (c : Nat) : Ry k T R w (.slice a 0 c) [] := ⟨.inl ⟨⟨_, _, rfl⟩, rfl⟩⟩
theorem Ry.slice (h : Ry k T R w v l) : ∃ a c, v = .slice a l.length c := by
  rcases h.at_ with ⟨⟨a, c, rfl⟩, rfl⟩ | ⟨bk, o, cap, rfl, _⟩
  · exact ⟨_, _, rfl⟩
  · exact ⟨_, _, rfl⟩
theorem Ry.get {a : Option Addr} {n c : Nat} (h : Ry k T R w (.slice a n c) l) (j : Nat) (t : α) (hj : l[j]? = some t) : ∃ bk o cs, a = some ⟨bk, o, none⟩ ∧ bk < w.heap.size ∧ cs.length = k ∧ R w t cs ∧
    ∀ r u, cs[r]? = some u → w.cell? ⟨bk, o + j * k + r, none⟩ = some u := by
  rcases h.at_ with ⟨_, rfl⟩ | ⟨bk, o, cap, h1, h2, ⟨cur, fr, h3⟩, h4⟩
  · simp at hj
  · rw [Value.slice.injEq] at h1
    obtain ⟨rfl, rfl, rfl⟩ := h1
    obtain ⟨cs, c1, c2, c3⟩ := h4 j t hj
    exact ⟨bk, o, cs, rfl, (Array.getElem?_eq_some_iff.1 h3).1, c1, c2, c3⟩
end
def Oy {α : Type} (k : Nat) (T : TypeId) (R : World → α → List Value → Prop) (base : Nat) (w : World) (v : Value) (l : List α) : Prop :=
  ∃ cs : List (List Value), w.ownsRow base T k v l.length cs.flatten ∧ (∀ c ∈ cs, c.length = k) ∧ cs.length = l.length ∧ ∀ (j : Nat) t c, l[j]? = some t → cs[j]? = some c → R w t c
theorem flat_get {k : Nat} : ∀ (cs : List (List Value)), (∀ c ∈ cs, c.length = k) → ∀ (i r : Nat) (c : List Value), cs[i]? = some c → r < k → cs.flatten[i * k + r]? = c[r]?
  | [], _, i, r, c, hi, _ => by simp at hi
  | q :: cs, h, i, r, c, hi, hr => by
    have hq := h q (by simp)
    rw [List.flatten_cons]
    cases i with
    | zero =>
      obtain rfl : q = c := by simpa using hi
      rw [Nat.zero_mul, Nat.zero_add, List.getElem?_append_left (by rw [hq]; exact hr)]
    | succ i =>
      rw [List.getElem?_append_right (by rw [hq, Nat.add_mul, Nat.one_mul]; omega), hq, show (i + 1) * k + r - k = i * k + r from by rw [Nat.add_mul, Nat.one_mul]; omega]
      exact flat_get cs (fun c hc => h c (by simp [hc])) i r c (by simpa using hi) hr
section
variable {α : Type} {k : Nat} {T : TypeId} {R : World → α → List Value → Prop} {base : Nat} {w W : World} {v : Value} {l : List α}
theorem Oy.nil : Oy k T R base w (.slice none 0 0) ([] : List α) := ⟨[], World.ownsRow_nil w _ _ _, by simp, rfl, fun j t c h => by simp at h⟩
theorem Oy.ry (h : Oy k T R base w v l) : Ry k T R w v l := by
  obtain ⟨cs, h1, h2, h3, h4⟩ := h
  rcases h1.2 with ⟨rfl, h0⟩ | ⟨g, cap, cur, rfl, hg, hh, hle, _⟩
  · have : l = [] := List.length_eq_zero_iff.1 h0
    subst this
    exact Ry.nil _ _
  · refine ⟨.inr ⟨g, 0, cap, rfl, hle, ⟨cur, _, hh⟩, fun j t hj => ?_⟩⟩
    have hjl := (List.getElem?_eq_some_iff.1 hj).1
    have hc : cs[j]? = some (cs[j]'(by omega)) := List.getElem?_eq_getElem (by omega)
    generalize cs[j]'(by omega) = c at hc
    have hck := h2 c (List.mem_of_getElem? hc)
    refine ⟨c, hck, h4 j t c hj hc, fun r u hu => ?_⟩
    have hr : r < k := by
      have := (List.getElem?_eq_some_iff.1 hu).1
      omega
    have := World.ownsRow.cells h1 (g := g) rfl (j * k + r) u (by rw [flat_get cs h2 j r c hc hr]; exact hu)
    rw [show (0 : Nat) + j * k + r = j * k + r from by omega]
    rwa [show ((⟨g, 0, none⟩ : Addr).add (j * k + r)) = ⟨g, j * k + r, none⟩ from by unfold Addr.add; split <;> simp_all] at this
theorem Oy.obj (h : Oy k T R base w v l) (hR : ∀ t c, R w t c → R W t c) (ho : ∀ (g : Nat) cur fr, w.heap[g]? = some (.cells cur T fr) → W.heap[g]? = some (.cells cur T fr)) : Oy k T R base W v l := by
  obtain ⟨cs, h1, h2, h3, h4⟩ := h
  refine ⟨cs, ⟨h1.1, ?_⟩, h2, h3, fun j t c a b => hR t c (h4 j t c a b)⟩
  rcases h1.2 with h | ⟨g, cap, cur, hv, hg, hh, r⟩
  · exact .inl h
  · exact .inr ⟨g, cap, cur, hv, hg, ho g _ _ hh, r⟩
theorem Oy.more {cs : List (List Value)} {c : List Value} {t : α} {v1 : Value} (h2 : ∀ c ∈ cs, c.length = k) (h3 : cs.length = l.length) (h4 : ∀ (j : Nat) t c, l[j]? = some t → cs[j]? = some c → R W t c)
    (h : W.ownsRow base T k v1 (l.length + 1) (cs.flatten ++ c)) (hc : c.length = k) (hR : R W t c) : Oy k T R base W v1 (l ++ [t]) := by
  refine ⟨cs ++ [c], ?_, fun x hx => ?_, by simp [h3], fun j t' c' hj hc' => ?_⟩
  · rw [List.length_append, List.length_singleton, List.flatten_append, List.flatten_singleton]; exact h
  · rcases List.mem_append.1 hx with hx | hx
    · exact h2 x hx
    · rw [List.mem_singleton.1 hx]; exact hc
  · rcases Nat.lt_or_ge j l.length with q | q
    · rw [List.getElem?_append_left q] at hj
      rw [List.getElem?_append_left (by omega)] at hc'
      exact h4 j t' c' hj hc'
    · have hjl := (List.getElem?_eq_some_iff.1 hj).1
      rw [List.length_append, List.length_singleton] at hjl
      obtain rfl : j = l.length := by omega
      rw [List.getElem?_append_right (Nat.le_refl _), Nat.sub_self] at hj
      rw [List.getElem?_append_right (by omega), h3, Nat.sub_self] at hc'
      simp at hj hc'
      subst hj; subst hc'
      exact hR
end
end Go.Proofs.YthpcbbkpjggjbaaGreatDoor
namespace Go.Proofs.YthpcbbkpjggjbaaGreatDoor
open Go.RowKit
structure Rw {α : Type} (k : Nat) (R : World → α → List Value → Prop) (w : World) (v : Value) (l : List α) : Prop where
  at_ : ((∃ a c, v = .slice a 0 c) ∧ l = []) ∨ ∃ bk o cap, v = .slice (some ⟨bk, o, none⟩) l.length cap ∧ l.length ≤ cap ∧ bk < w.heap.size ∧
    ∀ j t, l[j]? = some t → ∃ c : List Value, c.length = k ∧ R w t c ∧ ∀ r u, c[r]? = some u → w.cell? ⟨bk, o + j * k + r, none⟩ = some u
section
variable {α : Type} {k : Nat} {R : World → α → List Value → Prop} {w W : World} {v : Value} {l : List α}
theorem Rw.nil (a : Option Addr) (c : Nat) : Rw k R w (.slice a 0 c) ([] : List α) := ⟨.inl ⟨⟨_, _, rfl⟩, rfl⟩⟩
theorem Rw.slice (h : Rw k R w v l) : ∃ a c, v = .slice a l.length c := by
  rcases h.at_ with ⟨⟨a, c, rfl⟩, rfl⟩ | ⟨bk, o, cap, rfl, _⟩
  · exact ⟨_, _, rfl⟩
  · exact ⟨_, _, rfl⟩
theorem Rw.below (h : Rw k R w v l) (hb : Below w.heap.size w W) (hR : ∀ t c, R w t c → R W t c) : Rw k R W v l := by
  rcases h.at_ with h | ⟨bk, o, cap, h1, h2, h3, h4⟩
  · exact ⟨.inl h⟩
  · refine ⟨.inr ⟨bk, o, cap, h1, h2, Nat.lt_of_lt_of_le h3 hb.size, fun j t hj => ?_⟩⟩
    obtain ⟨c, c1, c2, c3⟩ := h4 j t hj
    refine ⟨c, c1, hR t c c2, fun r u hu => ?_⟩
    exact (Below.cell hb (p := ⟨bk, o + j * k + r, none⟩) h3).trans (c3 r u hu)
theorem Rw.get {a : Option Addr} {n c : Nat} (h : Rw k R w (.slice a n c) l) (j : Nat) (t : α) (hj : l[j]? = some t) : ∃ bk o cs, a = some ⟨bk, o, none⟩ ∧ bk < w.heap.size ∧ cs.length = k ∧ R w t cs ∧
    ∀ r u, cs[r]? = some u → w.cell? ⟨bk, o + j * k + r, none⟩ = some u := by
  rcases h.at_ with ⟨_, rfl⟩ | ⟨bk, o, cap, h1, h2, h3, h4⟩
  · simp at hj
  · rw [Value.slice.injEq] at h1
    obtain ⟨rfl, rfl, rfl⟩ := h1
    obtain ⟨cs, c1, c2, c3⟩ := h4 j t hj
    exact ⟨bk, o, cs, rfl, h3, c1, c2, c3⟩
theorem Rw.of_ry {T : TypeId} (h : Ry k T R w v l) : Rw k R w v l := by
  rcases h.at_ with h | ⟨bk, o, cap, h1, h2, ⟨cur, fr, h3⟩, h4⟩
  · exact ⟨.inl h⟩
  · exact ⟨.inr ⟨bk, o, cap, h1, h2, (Array.getElem?_eq_some_iff.1 h3).1, h4⟩⟩
end
structure Nod where
  name : ByteArray
  kind : Int
  mode : Int
  time : Int
  size : Int
  parts : List (List UInt8)
  link : ByteArray
def Nod.nd (n : Nod) : Td.Nd := ⟨n.name.data.toList, n.kind, n.mode, n.time, n.size, n.parts, n.link.data.toList⟩
def nds (l : List Nod) : List Td.Nd := l.map Nod.nd
theorem nds_length (l : List Nod) : (nds l).length = l.length := List.length_map _
abbrev ndC (n : Nod) (v : Value) : List Value := [.string n.name, .int .i64 n.kind, .int .i64 n.mode, .int .i64 n.time, .int .i64 n.size, v, .string n.link]
structure Nod.Ok (n : Nod) : Prop where
  kind : (Lit.int .i64 n.kind).wf = true
  mode : (Lit.int .i64 n.mode).wf = true
  time : (Lit.int .i64 n.time).wf = true
  size : (Lit.int .i64 n.size).wf = true
  name : n.name.size ≤ 9223372036854775807
  link : n.link.size ≤ 9223372036854775807
  ids : ∀ p ∈ n.parts, p.length = 8
def NdR (w : World) (n : Nod) (c : List Value) : Prop := ∃ v, c = ndC n v ∧ Rx 8 idC w v n.parts ∧ n.Ok
theorem NdR.below {w W : World} {n : Nod} {c : List Value} (h : NdR w n c) (hb : Below w.heap.size w W) : NdR W n c := by
  obtain ⟨v, e, q, r⟩ := h
  exact ⟨v, e, q.below hb, r⟩
abbrev Nds (w : World) (v : Value) (l : List Nod) : Prop := Rw 7 NdR w v l
theorem Nds.below {w W : World} {v : Value} {l : List Nod} (h : Nds w v l) (hb : Below w.heap.size w W) : Nds W v l := Rw.below h hb fun _ _ q => q.below hb
end Go.Proofs.YthpcbbkpjggjbaaGreatDoor
namespace Go.Proofs.YthpcbbkpjggjbaaGreatDoor
open Go.RowKit
structure Ko (p : Obj → Prop) (A B : World) : Prop where
  os : B.os = A.os
  tape : B.tape = A.tape
  output : B.output = A.output
  size : A.heap.size ≤ B.heap.size
  obj : ∀ (k : Nat) (o : Obj), A.heap[k]? = some o → p o → B.heap[k]? = some o
section
variable {p : Obj → Prop} {A B C : World}
theorem Ko.trans (h : Ko p A B) (k : Ko p B C) : Ko p A C :=
  ⟨k.os.trans h.os, k.tape.trans h.tape, k.output.trans h.output, Nat.le_trans h.size k.size, fun i o ho hp => k.obj i o (h.obj i o ho hp) hp⟩
theorem Ko.of_below (h : Below A.heap.size A B) : Ko p A B := ⟨h.os, h.tape, h.output, h.size, fun k _ ho _ => (h.block k (Array.getElem?_eq_some_iff.1 ho).1).trans ho⟩
theorem Ko.of_kept {q : Nat → Prop} (h : Kept q A B) (hq : ∀ k o, A.heap[k]? = some o → p o → q k) : Ko p A B :=
  ⟨h.os, h.tape, h.output, h.size, fun k o ho hp => h.obj (hq k o ho hp) ho⟩
end
def pP : Obj → Prop
  | .cells _ t _ => t ≠ 111 ∧ t ≠ 81
  | _ => False
def pR : Obj → Prop
  | .cells _ t _ => t ≠ 27 ∧ t ≠ 87
  | _ => True
theorem own_ko {p : Obj → Prop} {base : Nat} {e : TypeId} {k : Nat} {v : Value} {n : Nat} {xs : List Value} {w w' : World} (h : w.ownsRow base e k v n xs) (hk : Ko p w w') (hp : ∀ cur fr, p (.cells cur e fr)) : w'.ownsRow base e k v n xs := by
  obtain ⟨h1, h2⟩ := h
  refine ⟨h1, ?_⟩
  rcases h2 with h2 | ⟨g, cap, cur, hv, hg, hh, r⟩
  · exact .inl h2
  · exact .inr ⟨g, cap, cur, hv, hg, hk.obj g _ hh (hp _ _), r⟩
theorem Rx.keepb {α : Type} {k : Nat} {C : α → List Value} {base : Nat} {w w' : World} {v : Value} {l : List α} (h : Rx k C w v l) (hk : Below base w w') (hb : ∀ a n c, v = .slice (some a) n c → l ≠ [] → a.block < base) : Rx k C w' v l := by
  by_cases hl : l = []
  · subst hl
    rcases h.at_ with ⟨h1, _⟩ | ⟨bk, o, cap, e, _⟩
    · exact ⟨.inl ⟨h1, rfl⟩, h.room⟩
    · exact ⟨.inl ⟨⟨_, _, e⟩, rfl⟩, h.room⟩
  · exact h.kept (Kept.of_below_at (p := fun k => k < base) hk fun _ h => h) (fun a n c e => hb a n c e hl)
structure Plt (base b m : Nat) (fx mn mx bt : Int) (w : World) (left : List Im) (bs : List Blb) (n : Nat) : Prop where
  ex : ∃ lv bv, w.heap[b]? = some (.cells #[.int .i64 fx, .int .i64 mn, .int .i64 mx, .int .i64 bt, lv, .map (some m), bv] 81 (0, 0)) ∧ Ims w lv left ∧
    (∀ a n c, lv = .slice (some a) n c → left ≠ [] → a.block < base) ∧ w.ownsRow base 111 2 bv bs.length (rowR blC bs)
  map : Mp w m n (mpB bs)
  at_ : base ≤ b
  atm : base ≤ m
structure Pf (base : Nat) (A B : World) : Prop where
  low : Below base A B
  ko : Ko pP A B
theorem Pf.trans {base : Nat} {A B C : World} (h : Pf base A B) (k : Pf base B C) : Pf base A C := ⟨h.low.trans k.low, h.ko.trans k.ko⟩
theorem Pf.of_below {base : Nat} {A B : World} (h : Below A.heap.size A B) (hb : base ≤ A.heap.size) : Pf base A B := ⟨h.mono hb, Ko.of_below h⟩
theorem Pf.size {base : Nat} {A B : World} (h : Pf base A B) : A.heap.size ≤ B.heap.size := h.ko.size
theorem Pf.cells {base : Nat} {A B : World} (h : Pf base A B) {k : Nat} {cur : Array Value} {t : TypeId} {fr : Nat × Nat} (ho : A.heap[k]? = some (.cells cur t fr)) (h1 : t ≠ 111) (h2 : t ≠ 81) : B.heap[k]? = some (.cells cur t fr) :=
  h.ko.obj k _ ho ⟨h1, h2⟩
theorem Plt.below {base b m : Nat} {fx mn mx bt : Int} {w w' : World} {left : List Im} {bs : List Blb} {n : Nat} (h : Plt base b m fx mn mx bt w left bs n) (hb : Below w.heap.size w w') : Plt base b m fx mn mx bt w' left bs n := by
  obtain ⟨⟨lv, bv, h1, h2, h3, h4⟩, hm, ha, hc⟩ := h
  exact ⟨⟨lv, bv, (hb.block b (Array.getElem?_eq_some_iff.1 h1).1).trans h1, h2.below hb, h3, own_below h4 hb⟩, hm.below hb, ha, hc⟩
theorem sev_at {w : World} {b : Nat} {T : TypeId} {fr : Nat × Nat} {x0 x1 x2 x3 x4 x5 x6 : Value} (h : w.heap[b]? = some (.cells #[x0, x1, x2, x3, x4, x5, x6] T fr)) :
    w.cell? ⟨b, 0, none⟩ = some x0 ∧ w.cell? ⟨b, 1, none⟩ = some x1 ∧ w.cell? ⟨b, 2, none⟩ = some x2 ∧ w.cell? ⟨b, 3, none⟩ = some x3 ∧ w.cell? ⟨b, 4, none⟩ = some x4 ∧ w.cell? ⟨b, 5, none⟩ = some x5 ∧ w.cell? ⟨b, 6, none⟩ = some x6 ∧ b < w.heap.size := by
  refine ⟨?_, ?_, ?_, ?_, ?_, ?_, ?_, (Array.getElem?_eq_some_iff.1 h).1⟩ <;> simp [World.cell?, h]
theorem free_at {w : World} {b : Nat} {T : TypeId} {cur : Array Value} (h : w.heap[b]? = some (.cells cur T (0, 0))) (j : Nat) : w.frozen? ⟨b, j, none⟩ = false := by simp [World.frozen?, h]
end Go.Proofs.YthpcbbkpjggjbaaGreatDoor
namespace Go.Proofs
open Go.Shelf
def Tryz.lays148_ren : Go.Shelf.Ren := ⟨fun | 148 => 56 | 222 => 71 | 223 => 72 | 269 => 89 | n => n, fun | 9 => 9 | 3 => 3 | 4 => 4 | 5 => 5 | 146 => 155 | 51 => 154 | 46 => 167 | n => n, fun | n => n⟩
theorem Tryz.lays148 : Go.Proofs.Lays.n148 Tryz.prog Tryz.lays148_ren := {
  mixed := by kernel_rfl
  f148 := Tryz.func56.trans (congrArg some (by kernel_rfl))
  f222 := Tryz.func71.trans (congrArg some (by kernel_rfl))
  f223 := Tryz.func72.trans (congrArg some (by kernel_rfl))
  f269 := Tryz.func89.trans (congrArg some (by kernel_rfl))
  t3 := Tryz.underlying3
  a3 := Tryz.isAgg3
  z3 := Tryz.sizeOf3
  v3 := Tryz.zeroValue3
  t4 := Tryz.underlying4
  a4 := Tryz.isAgg4
  z4 := Tryz.sizeOf4
  v4 := Tryz.zeroValue4
  t5 := Tryz.underlying5
  a5 := Tryz.isAgg5
  z5 := Tryz.sizeOf5
  v5 := Tryz.zeroValue5
  t9 := Tryz.underlying9
  a9 := Tryz.isAgg9
  z9 := Tryz.sizeOf9
  v9 := Tryz.zeroValue9
  t46 := Tryz.underlying167
  a46 := Tryz.isAgg167
  z46 := Tryz.sizeOf167
  v46 := Tryz.zeroValue167
  t51 := Tryz.underlying154
  a51 := Tryz.isAgg154
  z51 := Tryz.sizeOf154
  v51 := Tryz.zeroValue154
  t146 := Tryz.underlying155
  a146 := Tryz.isAgg155
  z146 := Tryz.sizeOf155
  v146 := Tryz.zeroValue155 }
open Go.RowKit Go.Lib in
theorem Tryz.strings_LastIndex_one (s sub : ByteArray) (h1 : sub.size = 1) (hs : s.size < 4611686018427387904) (w : World) :
    Calls Tryz.prog 56 #[.string s, .string sub] w fun e w' => e = .returned (.int .i64 (Lib.lastIndexByte s ((sub[0]'(by omega)).toNat : Int))) ∧ w' = w := Any.strings_LastIndex_one Tryz.lays148 s sub h1 hs w
end Go.Proofs
namespace Go.Proofs.YthpcbbkpjggjbaaGreatDoor
open Go.RowKit
set_option maxRecDepth 4000
theorem last_at {s : ByteArray} {a b : List UInt8} (h : s.data.toList = a ++ 47 :: b) (hb : (47 : UInt8) ∉ b) : Lib.lastIndexByte s 47 = (a.length : Int) := by
  have := Wk.last_of a b hb
  rw [← h] at this
  exact this
theorem last_call (s : ByteArray) (a b : List UInt8) (w : World) (h : s.data.toList = a ++ 47 :: b) (hb : (47 : UInt8) ∉ b) (hs : s.size < 4611686018427387904) :
    Calls Tryz.prog 56 #[.string s, .string ⟨#[47]⟩] w fun e w' => e = .returned (.int .i64 (a.length : Nat)) ∧ w' = w := by
  refine (Tryz.strings_LastIndex_one s ⟨#[47]⟩ rfl hs w).mono ?_
  rintro e w' ⟨rfl, h'⟩
  have e1 : (((⟨#[47]⟩ : ByteArray)[0]'(by decide)).toNat : Int) = 47 := by decide
  rw [e1, last_at h hb]
  exact ⟨rfl, h'⟩
set_option maxHeartbeats 1000000 in
theorem parent_any (s : ByteArray) (a b : List UInt8) (w : World) (h : s.data.toList = a ++ 47 :: b) (hb : (47 : UInt8) ∉ b) (hs : s.size < 4611686018427387904) :
    Calls Tryz.prog 39 #[.string s] w fun e w' => e = .returned (.string ⟨a.toArray⟩) ∧ w' = w := by
  have hl := last_call s a b w h hb hs
  have hsz : s.size = a.length + 1 + b.length := by rw [Lib.size_eq, h]; simp; omega
  have he : Hid (s.extract 0 a.length = ⟨a.toArray⟩) := by
    show _ = _
    rw [ext_eq, h]; simp
  generalize hn : a.length = n at *
  go_enter Tryz.func39, Tryz.ntmps39
  go_wp2_with fail
  refine hl.mono ?_
  rintro e u ⟨rfl, hu⟩
  obtain rfl := hu.symm
  go_wp2_with fail
  go_ret
  exact ⟨congrArg (fun z => Ending.returned (.string z)) he.out, rfl⟩
set_option maxHeartbeats 1000000 in
theorem lastName_any (s : ByteArray) (a b : List UInt8) (w : World) (h : s.data.toList = a ++ 47 :: b) (hb : (47 : UInt8) ∉ b) (hs : s.size < 4611686018427387904) :
    Calls Tryz.prog 61 #[.string s] w fun e w' => e = .returned (.string ⟨b.toArray⟩) ∧ w' = w := by
  have hl := last_call s a b w h hb hs
  have hsz : s.size = a.length + 1 + b.length := by rw [Lib.size_eq, h]; simp; omega
  have he : Hid (s.extract (a.length + 1) (a.length + 1 + b.length) = ⟨b.toArray⟩) := by
    show _ = _
    rw [ext_eq, h]
    rw [show a ++ 47 :: b = (a ++ [47]) ++ b by simp, List.drop_left' (by simp)]
    rw [List.take_of_length_le (by omega)]
  generalize hn : a.length = n at *
  go_enter Tryz.func61, Tryz.ntmps61
  go_wp2_with fail
  refine hl.mono ?_
  rintro e u ⟨rfl, hu⟩
  obtain rfl := hu.symm
  go_wp2_with fail
  go_ret
  exact ⟨congrArg (fun z => Ending.returned (.string z)) he.out, rfl⟩
theorem info_blb : (Tryz.prog.info? 111).map (fun i => (i.zero, i.size, i.bytes)) = some (some (.agg #[.int .i64 0, .string ⟨#[]⟩]), 2, 24) := by kernel_rfl
theorem Plt.map_lt {base b m : Nat} {fx mn mx bt : Int} {w : World} {left : List Im} {bs : List Blb} {n : Nat} (h : Plt base b m fx mn mx bt w left bs n) : m < w.heap.size := h.map.lt
theorem Plt.ne {base b m : Nat} {fx mn mx bt : Int} {w : World} {left : List Im} {bs : List Blb} {n : Nat} (h : Plt base b m fx mn mx bt w left bs n) : b ≠ m := by
  rintro rfl
  obtain ⟨lv, bv, h1, _⟩ := h.ex
  obtain ⟨es, c, h2⟩ := h.map.isMap
  rw [h1] at h2
  cases h2
theorem I8.aft {m : Nat} {W2 w3 : World} (k3 : Kept (fun k => k ≠ m) (W2.alloc (.cells Z8 39)).drew w3) (hm : m < W2.heap.size) : I8 w3 W2.heap.size (List.replicate 8 0) := by
  have h0 := I8.new W2 39
  have h : I8 (W2.alloc (.cells Z8 39)).drew W2.heap.size (List.replicate 8 0) := h0.below (Below.refl _ _).drew h0.lt
  exact h.kept k3 (by show W2.heap.size ≠ m; omega)
theorem kept_set8 {m : Nat} {w W : World} {G : Nat} (h : Kept (fun k => k ≠ m) w W) (hG : w.heap.size ≤ G) (b0 b1 b2 b3 b4 b5 b6 b7 : UInt8) : Kept (fun k => k ≠ m) w (set8 W G b0 b1 b2 b3 b4 b5 b6 b7) := by
  have hb : Below G W (set8 W G b0 b1 b2 b3 b4 b5 b6 b7) := below_set8 (Below.refl _ _) (Nat.le_refl _) _ _ _ _ _ _ _ _
  exact ⟨hb.os.trans h.os, hb.tape.trans h.tape, hb.output.trans h.output, Nat.le_trans h.size hb.size, fun k hk hp => (hb.block k (by omega)).trans (h.block k hk hp)⟩
theorem kept_not8 (W : World) (G : Nat) (b0 b1 b2 b3 b4 b5 b6 b7 : UInt8) : Kept (fun k => k ≠ G) W (set8 W G b0 b1 b2 b3 b4 b5 b6 b7) :=
  (((((((((Kept.refl _ W).setCell (by simp) _).setCell (by simp) _).setCell (by simp) _).setCell (by simp) _).setCell (by simp) _).setCell (by simp) _).setCell (by simp) _).setCell (by simp) _)
theorem Mp.set8 {w : World} {m n G : Nat} {l : List (List UInt8 × Value)} (h : Mp w m n l) (hG : m < G) (b0 b1 b2 b3 b4 b5 b6 b7 : UInt8) : Mp (set8 w G b0 b1 b2 b3 b4 b5 b6 b7) m n l :=
  h.obj fun _ _ ho => ((below_set8 (Below.refl G w) (Nat.le_refl _) b0 b1 b2 b3 b4 b5 b6 b7).block m hG).trans ho
theorem two_at {W : World} {B : Nat} {x : Blb} (h0 : W.cell? ⟨B, 0, none⟩ = some (.int .i64 x.kind)) (h1 : W.cell? ⟨B, 1, none⟩ = some (.string x.bytes)) : ∀ j u, (blC x)[j]? = some u → W.cell? ((⟨B, 0, none⟩ : Addr).add j) = some u := by
  intro j u hj
  rw [Addr.add_mid, Nat.zero_add]
  match j, hj with
  | 0, hj => rw [h0]; exact hj
  | 1, hj => rw [h1]; exact hj
theorem set_six {W : World} {M : Nat} {x0 x1 x2 x3 x4 x5 x6 : Value} {T : TypeId} {fr : Nat × Nat} (h : W.heap[M]? = some (.cells #[x0, x1, x2, x3, x4, x5, x6] T fr)) (a : Value) :
    (W.setCell ⟨M, 6, none⟩ a).heap[M]? = some (.cells #[x0, x1, x2, x3, x4, x5, a] T fr) := by
  simp [World.setCell, Array.getElem?_modify, h]
theorem Plt.more {base b m n' : Nat} {fx mn mx bt : Int} {w w' : World} {left : List Im} {bs' : List Blb} {lv bv : Value} (h2 : Ims w lv left) (h3 : ∀ a n c, lv = .slice (some a) n c → left ≠ [] → a.block < base)
    (hk : Below base w w') (h1 : w'.heap[b]? = some (.cells #[.int .i64 fx, .int .i64 mn, .int .i64 mx, .int .i64 bt, lv, .map (some m), bv] 81 (0, 0)))
    (h4 : w'.ownsRow base 111 2 bv bs'.length (rowR blC bs')) (hm : Mp w' m n' (mpB bs')) (ha : base ≤ b) (hc : base ≤ m) : Plt base b m fx mn mx bt w' left bs' n' :=
  ⟨⟨lv, bv, h1, h2.keepb hk h3, h3, h4⟩, hm, ha, hc⟩
set_option maxHeartbeats 2000000 in
theorem tell_any (base b m n : Nat) (fx mn mx bt : Int) (left : List Im) (bs : List Blb) (x : Blb) (w : World) (h : Plt base b m fx mn mx bt w left bs n) (hn : n < 1000000000) (hl : bs.length ≤ 1000000000) (hx : x.bytes.size ≤ 9223372036854775807) :
    Calls Tryz.prog 48 #[.pointer (some ⟨b, 0, none⟩), blV x] w fun e w' => e = .returned (.tuple #[idV (idI bs x), .int .i64 (errI bs x)]) ∧ (∃ n', n' ≤ n + 1 ∧ Plt base b m fx mn mx bt w' left (more bs x) n') ∧ Pf base w w' := by
  obtain ⟨i0, hi, hz0, hz1, hz2⟩ := info_parts info_blb
  obtain ⟨W2, hW2⟩ : ∃ W2, W2 = (w.alloc (.cells #[.int .i64 x.kind, .string x.bytes] 111)).alloc (.cells Z8 39) := ⟨_, rfl⟩
  have hB2 : Below w.heap.size w W2 := by rw [hW2]; exact ((Below.refl _ w).alloc (Nat.le_refl _) _).alloc (by simp) _
  have hS2 : W2.heap.size = w.heap.size + 2 := by rw [hW2]; simp
  have c0 : W2.cell? ⟨w.heap.size, 0, none⟩ = some (.int .i64 x.kind) := by rw [hW2]; simp
  have c1 : W2.cell? ⟨w.heap.size, 1, none⟩ = some (.string x.bytes) := by rw [hW2]; simp
  have hX2 : I8 W2 (w.heap.size + 1) (List.replicate 8 0) := by
    rw [hW2]
    have := I8.new (w.alloc (.cells #[.int .i64 x.kind, .string x.bytes] 111)) 39
    rwa [World.size_alloc] at this
  have hbm : b ≠ m := h.ne
  have hmlt : m < w.heap.size := h.map_lt
  obtain ⟨⟨lv, bv, p1, p2, p3, p4⟩, hmp0, ha, hm⟩ := h
  have hblt : b < w.heap.size := (Array.getElem?_eq_some_iff.1 p1).1
  have hbase : base ≤ w.heap.size := by omega
  have hmp := hmp0.below hB2
  obtain ⟨d0, d1, d2, d3, d4, d5, d6, dlt⟩ := sev_at ((hB2.block b hblt).trans p1)
  have HNm : Hid (∀ g, bv.ownBlock = some g → g ≠ m) := fun g hg e => by
    subst e
    obtain ⟨cur, hc, _⟩ := own_block p4 hg
    obtain ⟨es, ck, hk⟩ := hmp0.isMap
    rw [hc] at hk
    cases hk
  have HKo : Hid (∀ k o, w.heap[k]? = some o → pP o → k ≠ m ∧ k ≠ b ∧ bv.ownBlock ≠ some k) := fun k o ho hp => by
    refine ⟨fun e => ?_, fun e => ?_, fun e => ?_⟩
    · subst e
      obtain ⟨es, ck, hk⟩ := hmp0.isMap
      rw [hk] at ho
      cases ho
      exact hp
    · subst e
      rw [p1] at ho
      cases ho
      exact hp.2 rfl
    · obtain ⟨cur, hc, _⟩ := own_block p4 e
      rw [hc] at ho
      cases ho
      exact hp.1 rfl
  have HLo : Hid (∀ k, k < base → k ≠ m ∧ k ≠ b ∧ bv.ownBlock ≠ some k) := fun k hk => by
    refine ⟨by omega, by omega, fun e => ?_⟩
    obtain ⟨cur, hc, hg, _⟩ := own_block p4 e
    omega
  have hput := fun W (hW : Below W2.heap.size W2 W) => hput_any m n bs x W (hmp.below hW) hn hx
  obtain ⟨b0, b1, b2, b3, b4, b5, b6, b7, hL⟩ := eight _ (idI_length bs x)
  have hput' : ∀ W, Below W2.heap.size W2 W → Calls Tryz.prog 49 #[.map (some m), .agg #[.int .i64 x.kind, .string x.bytes]] W fun e w' => e = .returned (.tuple #[.agg #[.int .u8 (b0.toNat : Int), .int .u8 (b1.toNat : Int), .int .u8 (b2.toNat : Int), .int .u8 (b3.toNat : Int), .int .u8 (b4.toNat : Int), .int .u8 (b5.toNat : Int), .int .u8 (b6.toNat : Int), .int .u8 (b7.toNat : Int)], .bool (newI bs x), .int .i64 (errI bs x)]) ∧ (∃ n', n' ≤ n + 1 ∧ Mp w' m n' (mpB (more bs x))) ∧ Kept (fun k => k ≠ m) W w' := fun W hW => by
    have := hput W hW
    rw [hL] at this
    exact this
  dsimp only [Z8] at hW2
  unfold blV
  rw [hL]
  have HMo : Hid (newI bs x = false → more bs x = bs) := fun q => by
    unfold newI at q; unfold more; rw [if_neg (of_decide_eq_false q)]
  have HMt : Hid (newI bs x = true → more bs x = bs ++ [x]) := fun q => by
    unfold newI at q; unfold more; rw [if_pos (of_decide_eq_true q)]
  generalize newI bs x = NW at *
  generalize errI bs x = ER at *
  generalize more bs x = MB at *
  have HP4 : Hid (w.ownsRow base 111 2 bv bs.length (rowR blC bs)) := p4
  have HP1 : Hid (w.heap[b]? = some (.cells #[.int .i64 fx, .int .i64 mn, .int .i64 mx, .int .i64 bt, lv, .map (some m), bv] 81 (0, 0))) := p1
  have HP2 : Hid (Ims w lv left) := p2
  have HP3 : Hid (∀ a n c, lv = .slice (some a) n c → left ≠ [] → a.block < base) := p3
  have HX2 : Hid (I8 W2 (w.heap.size + 1) (List.replicate 8 0)) := hX2
  have HB2 : Hid (Below w.heap.size w W2) := hB2
  have HC : Hid (W2.cell? ⟨w.heap.size, 0, none⟩ = some (.int .i64 x.kind) ∧ W2.cell? ⟨w.heap.size, 1, none⟩ = some (.string x.bytes)) := ⟨c0, c1⟩
  have HS2 : Hid (W2.heap.size = w.heap.size + 2) := hS2
  have HML : Hid (m < W2.heap.size) := by show _ < _; omega
  have hlt0 : w.heap.size < W2.heap.size := by omega
  have hlt1 : w.heap.size + 1 < W2.heap.size := by omega
  have Hne : Hid (b ≠ m ∧ base ≤ w.heap.size ∧ base ≤ b ∧ base ≤ m ∧ bs.length ≤ 1000000000) := ⟨hbm, hbase, ha, hm, hl⟩
  clear hS2 hput hL p1 p2 p3 p4 hX2 hB2 hmp hmp0 hbase ha hm hl
  go_enter Tryz.func48, Tryz.ntmps48
  go_upto_region 1 with fail
  rw [← hW2]
  clear hW2
  go_cut [6, 7, 8] from 9 (fun u v y wx => v = .bool NW ∧ y = .int .i64 ER ∧ ∃ G, u = .pointer (some ⟨G, 0, none⟩) ∧ Hid (I8 wx G [b0, b1, b2, b3, b4, b5, b6, b7]) ∧ Hid (w.heap.size + 2 ≤ G) ∧ Hid (∃ n', n' ≤ n + 1 ∧ Mp wx m n' (mpB MB)) ∧ Hid (Kept (fun k => k ≠ m) W2 wx))
  case first =>
    go_region_with (refine (hput' _ ?_).mono ?_; (first | exact (Below.refl _ _).drew | exact ((Below.refl _ _).alloc (Nat.le_refl _) _).drew); rintro e w3 ⟨rfl, h3, k3⟩; try (have hX3 := I8.aft k3 HML.out; obtain ⟨f0, f1, f2, f3, f4, f5, f6, f7⟩ := hX3.free; obtain ⟨e0, e1, e2, e3, e4, e5, e6, e7⟩ := I8.cells (b0 := 0) (b1 := 0) (b2 := 0) (b3 := 0) (b4 := 0) (b5 := 0) (b6 := 0) (b7 := 0) hX3))
    all_goals
      go_wp2_with fail
      go_meet
      obtain ⟨n', hn', hm'⟩ := h3
      first
      | (have hq := hX3
         exact ⟨rfl, rfl, _, rfl, hq.store b0 b1 b2 b3 b4 b5 b6 b7, Nat.le_of_eq HS2.out.symm, ⟨n', hn', hm'.set8 HML.out b0 b1 b2 b3 b4 b5 b6 b7⟩, kept_set8 (((Kept.refl _ W2).alloc _).drew.trans k3) (Nat.le_refl _) b0 b1 b2 b3 b4 b5 b6 b7⟩)
      | exact ⟨rfl, rfl, _, rfl, I8.laid (heap_alloc_new w3 _), Nat.le_trans (Nat.le_of_eq HS2.out.symm) k3.size, ⟨n', hn', hm'.below ((Below.refl _ _).alloc (Nat.le_refl _) _)⟩, (((Kept.refl _ W2).drew).trans k3).alloc _⟩
  case rest =>
  obtain ⟨rfl, rfl, G, rfl, HX, HG, HM, HK⟩ := hcut
  obtain ⟨wd, hwd⟩ : ∃ wd, wd = wc := ⟨_, rfl⟩
  subst hwd
  have hKw : Kept (fun k => k ≠ m) w wd := (Kept.of_below HB2.out).trans HK.out
  have HKw : Hid (Kept (fun k => k ≠ m) w wd) := hKw
  have p1c := hKw.obj (show b ≠ m from Hne.out.1) HP1.out
  have p4c := own_kept HP4.out hKw HNm.out
  have hXr := HX2.out.kept HK.out (show w.heap.size + 1 ≠ m by omega)
  have HXr : Hid (I8 wd (w.heap.size + 1) (List.replicate 8 0)) := hXr
  cases NW with
  | false =>
    have hmo := HMo.out rfl
    subst hmo
    have HMx : Hid (∃ n', n' ≤ n + 1 ∧ Mp wd m n' (mpB MB)) := HM
    obtain ⟨e0, e1, e2, e3, e4, e5, e6, e7⟩ := I8.cells (b0 := 0) (b1 := 0) (b2 := 0) (b3 := 0) (b4 := 0) (b5 := 0) (b6 := 0) (b7 := 0) hXr
    obtain ⟨f0, f1, f2, f3, f4, f5, f6, f7⟩ := hXr.free
    obtain ⟨r0, r1, r2, r3, r4, r5, r6, r7⟩ := HX.out.cells
    have HK9 : Hid (Kept (fun k => k ≠ m) w (set8 wd (w.heap.size + 1) b0 b1 b2 b3 b4 b5 b6 b7)) := kept_set8 hKw (by omega) _ _ _ _ _ _ _ _
    clear hKw p1c p4c hXr d0 d1 d2 d3 d4 d5 d6 hput' c0 c1 HMo HMt HM
    go_wp2_with fail
    refine bodyPost_ret (v := .tuple #[.agg #[B b0, B b1, B b2, B b3, B b4, B b5, B b6, B b7], .int .i64 ER]) ?_ rfl ⟨rfl, ?_, ?_⟩
    · have hres : Tryz.f48.results = #[.cell 4 39, .tmp 5] := by kernel_rfl
      simp only [results, hres]
      go_simp
      exact ⟨rfl, rfl, rfl, rfl, rfl, rfl, rfl, rfl⟩
    · obtain ⟨n', hn', hm'⟩ := HMx.out
      exact ⟨n', hn', Plt.more HP2.out HP3.out (HK9.out.below Hne.out.2.1 fun k hk => (HLo.out k hk).1) (HK9.out.obj Hne.out.1 HP1.out) (own_kept HP4.out HK9.out HNm.out) (hm'.set8 (by omega) _ _ _ _ _ _ _ _) Hne.out.2.2.1 Hne.out.2.2.2.1⟩
    · exact ⟨HK9.out.below Hne.out.2.1 fun k hk => (HLo.out k hk).1, Ko.of_kept HK9.out fun k o ho hp => (HKo.out k o ho hp).1⟩
  | true =>
    have hmo := HMt.out rfl
    subst hmo
    have HMx : Hid (∃ n', n' ≤ n + 1 ∧ Mp wd m n' (mpB (bs ++ [x]))) := HM
    have HP1c : Hid (wd.heap[b]? = some (.cells #[.int .i64 fx, .int .i64 mn, .int .i64 mx, .int .i64 bt, lv, .map (some m), bv] 81 (0, 0))) := p1c
    obtain ⟨g0, g1, g2, g3, g4, g5, g6, glt⟩ := sev_at p1c
    have hc0 : wd.cell? ⟨w.heap.size, 0, none⟩ = some (.int .i64 x.kind) := by
      have e := HK.out.block w.heap.size hlt0 (show w.heap.size ≠ m by omega)
      have := HC.out.1
      simp only [World.cell?, e] at this ⊢
      exact this
    have hc1 : wd.cell? ⟨w.heap.size, 1, none⟩ = some (.string x.bytes) := by
      have e := HK.out.block w.heap.size hlt0 (show w.heap.size ≠ m by omega)
      have := HC.out.2
      simp only [World.cell?, e] at this ⊢
      exact this
    have hwl : w.heap.size < wd.heap.size := Nat.lt_of_lt_of_le hlt0 HK.out.size
    obtain ⟨a, c, ebv⟩ := own_form p4c
    have HBV : Hid (bv = .slice a bs.length c) := ebv
    subst ebv
    have hrow : ∀ o2, ((wd.alloc o2).drew).ownsRow base 111 2 (.slice a bs.length c) bs.length (rowR blC bs) := fun o2 => (p4c.alloc o2).drew
    have HObl : Hid (∀ g, (Value.slice a bs.length c).ownBlock = some g → g ≠ b ∧ g < w.heap.size) := fun g hg => by
      obtain ⟨cur, hc, _, h3⟩ := own_block HP4.out hg
      refine ⟨fun e => ?_, h3⟩
      subst e
      rw [HP1.out] at hc
      cases hc
    have HQ : Hid (∀ o2 w1, ((wd.alloc o2).drew).grownBy w1 (Value.slice a bs.length c).ownBlock →
        w1.heap[b]? = some (.cells #[.int .i64 fx, .int .i64 mn, .int .i64 mx, .int .i64 bt, lv, .map (some m), .slice a bs.length c] 81 (0, 0)) ∧ Kept (fun k => (Value.slice a bs.length c).ownBlock ≠ some k) wd w1) := by
      intro o2 w1 hg
      have hk : Kept (fun k => (Value.slice a bs.length c).ownBlock ≠ some k) wd w1 := Kept.grown ((Kept.refl _ wd).alloc o2).drew hg fun k hk hp => hp hk
      exact ⟨hk.obj (fun e => (HObl.out _ e).1 rfl) HP1c.out, hk⟩
    have HLn : Hid (bs.length ≤ 1000000000) := Hne.out.2.2.2.2
    have hbw : base ≤ wd.heap.size := Nat.le_trans Hne.out.2.1 (Nat.le_of_lt hwl)
    have hln : bs.length ≤ 1000000000 := HLn.out
    obtain ⟨N, hN⟩ : ∃ N, N = bs.length := ⟨_, rfl⟩
    clear hKw p1c p4c hXr d0 d1 d2 d3 d4 d5 d6 hput' c0 c1 HMo HMt HM
    go_wp2_with fail
    go_cut [] from 9 (fun wx => Hid (∃ g cap, wx.ownsRow base 111 2 (.slice (some ⟨g, 0, none⟩) (bs.length + 1) cap) (bs.length + 1) (rowR blC bs ++ blC x) ∧
      wx.heap[b]? = some (.cells #[.int .i64 fx, .int .i64 mn, .int .i64 mx, .int .i64 bt, lv, .map (some m), .slice (some ⟨g, 0, none⟩) (bs.length + 1) cap] 81 (0, 0)) ∧
      Kept (fun k => k ≠ b ∧ (Value.slice a bs.length c).ownBlock ≠ some k) wd wx ∧ ((Value.slice a bs.length c).ownBlock = some g ∨ g = wd.heap.size + 1)))
    case first =>
      go_region_law ((refine step_append_lies _ (by rfl) (.tmp 24) (.tmp 26) 37 (by rfl) base 111 i0 (.agg #[.int .i64 0, .string ⟨#[]⟩]) 2 24 Tryz.underlying37 hi hz0 hz1 hz2 rfl (by decide) (.slice a bs.length c) bs.length (rowR blC bs) (by rfl) (hrow _) ⟨wd.heap.size, 0, none⟩ 1 1 (blC x) (by rfl) (by rfl) (two_at (by simp) (by simp)) (by simp [blC, Value.oneCell']) (by decide) (by unfold maxLen; omega) (by omega) (by simp; omega) (wd.heap.size + 1) (by simp) ?_; intro g cap w1 hown1 hgrow hat hlt; obtain ⟨q1, q2⟩ := HQ.out _ _ hgrow; obtain ⟨z0, z1, z2, z3, z4, z5, z6, zlt⟩ := sev_at q1; have zf := free_at q1 6))
      all_goals
        go_wp2_with fail
        go_meet
        have hgb : g ≠ b := fun e => by
          rcases hat with h | h
          · exact (HObl.out g h).1 e
          · omega
        exact ⟨g, cap, own_kept hown1 ((Kept.refl _ w1).setCell (p := fun k => k ≠ b) (by simp) _) (fun g' hg' e => hgb (by cases hg'; exact e)), set_six q1 _, (q2.mono fun _ h => h.2).setCell (fun h => h.1 rfl) _, hat⟩
    case rest =>
    obtain ⟨g, cap, hown, hbc, hk, hat⟩ := hcut.out
    have hk9 : Kept (fun k => k ≠ m ∧ k ≠ b ∧ (Value.slice a bs.length c).ownBlock ≠ some k) w wc := (HKw.out.mono fun _ h => h.1).trans (hk.mono fun _ h => h.2)
    have hG := HG.out
    have hX9 := HX.out.kept hk ⟨fun e => by omega, fun e => by have := (HObl.out G e).2; omega⟩
    have hXr9 := HXr.out.kept hk ⟨fun e => by omega, fun e => by have := (HObl.out _ e).2; omega⟩
    have HM9 : Hid (∃ n', n' ≤ n + 1 ∧ Mp wc m n' (mpB (bs ++ [x]))) := by
      obtain ⟨n', hn', hm'⟩ := HMx.out
      exact ⟨n', hn', hm'.obj fun _ _ ho => (hk.block m hm'.lt ⟨fun e => Hne.out.1 e.symm, fun e => HNm.out m e rfl⟩).trans ho⟩
    obtain ⟨e0, e1, e2, e3, e4, e5, e6, e7⟩ := I8.cells (b0 := 0) (b1 := 0) (b2 := 0) (b3 := 0) (b4 := 0) (b5 := 0) (b6 := 0) (b7 := 0) hXr9
    obtain ⟨f0, f1, f2, f3, f4, f5, f6, f7⟩ := hXr9.free
    obtain ⟨r0, r1, r2, r3, r4, r5, r6, r7⟩ := hX9.cells
    have HB9 : Hid (Below (w.heap.size + 1) wc (set8 wc (w.heap.size + 1) b0 b1 b2 b3 b4 b5 b6 b7)) := below_set8 (Below.refl _ _) (Nat.le_refl _) _ _ _ _ _ _ _ _
    have HK9 : Hid (Kept (fun k => k ≠ m ∧ k ≠ b ∧ (Value.slice a bs.length c).ownBlock ≠ some k) w (set8 wc (w.heap.size + 1) b0 b1 b2 b3 b4 b5 b6 b7)) :=
      ⟨HB9.out.os.trans hk9.os, HB9.out.tape.trans hk9.tape, HB9.out.output.trans hk9.output, Nat.le_trans hk9.size HB9.out.size, fun k hk hp => (HB9.out.block k (by omega)).trans (hk9.block k hk hp)⟩
    have HO9 : Hid ((set8 wc (w.heap.size + 1) b0 b1 b2 b3 b4 b5 b6 b7).ownsRow base 111 2 (.slice (some ⟨g, 0, none⟩) (bs.length + 1) cap) (bs ++ [x]).length (rowR blC (bs ++ [x]))) := by
      have hgw : g ≠ w.heap.size + 1 := fun e => by
        rcases hat with h | h
        · have := (HObl.out g h).2
          omega
        · omega
      exact own_kept (own_one_more hown) (kept_not8 wc (w.heap.size + 1) _ _ _ _ _ _ _ _) (fun g' hg' e => hgw (by cases hg'; exact e))
    have HB1c : Hid (wc.heap[b]? = some (.cells #[.int .i64 fx, .int .i64 mn, .int .i64 mx, .int .i64 bt, lv, .map (some m), .slice (some ⟨g, 0, none⟩) (bs.length + 1) cap] 81 (0, 0))) := hbc
    clear hX9 hXr9 hk9 hk hown hbc hat HQ hrow g0 g1 g2 g3 g4 g5 g6 hc0 hc1 hcut
    go_wp2_with fail
    refine bodyPost_ret (v := .tuple #[.agg #[B b0, B b1, B b2, B b3, B b4, B b5, B b6, B b7], .int .i64 ER]) ?_ rfl ⟨rfl, ?_, ?_⟩
    · have hres : Tryz.f48.results = #[.cell 4 39, .tmp 5] := by kernel_rfl
      simp only [results, hres]
      go_simp
      exact ⟨rfl, rfl, rfl, rfl, rfl, rfl, rfl, rfl⟩
    · obtain ⟨n', hn', hm'⟩ := HM9.out
      exact ⟨n', hn', Plt.more HP2.out HP3.out (HK9.out.below Hne.out.2.1 HLo.out) ((HB9.out.block b (by omega)).trans HB1c.out) HO9.out (hm'.set8 (by omega) _ _ _ _ _ _ _ _) Hne.out.2.2.1 Hne.out.2.2.2.1⟩
    · exact ⟨HK9.out.below Hne.out.2.1 HLo.out, Ko.of_kept HK9.out HKo.out⟩
end Go.Proofs.YthpcbbkpjggjbaaGreatDoor
namespace Go.Proofs
open Go.Shelf
def Tryz.lays110_ren : Go.Shelf.Ren := ⟨fun | 110 => 38 | 109 => 55 | n => n, fun | 31 => 89 | 9 => 9 | 4 => 4 | 3 => 3 | 0 => 0 | n => n, fun | n => n⟩
theorem Tryz.lays110 : Go.Proofs.Lays.n110 Tryz.prog Tryz.lays110_ren := {
  mixed := by kernel_rfl
  f109 := Tryz.func55.trans (congrArg some (by kernel_rfl))
  f110 := Tryz.func38.trans (congrArg some (by kernel_rfl))
  t0 := Tryz.underlying0
  a0 := Tryz.isAgg0
  z0 := Tryz.sizeOf0
  v0 := Tryz.zeroValue0
  t3 := Tryz.underlying3
  a3 := Tryz.isAgg3
  z3 := Tryz.sizeOf3
  v3 := Tryz.zeroValue3
  t4 := Tryz.underlying4
  a4 := Tryz.isAgg4
  z4 := Tryz.sizeOf4
  v4 := Tryz.zeroValue4
  t9 := Tryz.underlying9
  a9 := Tryz.isAgg9
  z9 := Tryz.sizeOf9
  v9 := Tryz.zeroValue9
  t31 := Tryz.underlying89
  a31 := Tryz.isAgg89
  z31 := Tryz.sizeOf89
  v31 := Tryz.zeroValue89 }
open Go.Lib in
theorem Tryz.slices_Contains_string (b off n c : Nat) (zs : List ByteArray) (x : ByteArray) (w : World) (hz : n ≤ zs.length) (hbig : n ≤ 9223372036854775807) (hc : ∀ j, j < zs.length → w.cell? ⟨b, off + j, none⟩ = some (.string (zs.getD j ByteArray.empty))) :
    Calls Tryz.prog 38 #[.slice (some ⟨b, off, none⟩) n c, .string x] w fun e w' => e = .returned (.bool (Lib.containsS (zs.take n) x)) ∧ w' = w := Any.slices_Contains_string Tryz.lays110 b off n c zs x w hz hbig hc
open Go.Lib in
theorem Tryz.slices_Contains_string_empty (a : Option Addr) (c : Nat) (x : ByteArray) (w : World) :
    Calls Tryz.prog 38 #[.slice a 0 c, .string x] w fun e w' => e = .returned (.bool false) ∧ w' = w := Any.slices_Contains_string_empty Tryz.lays110 a c x w
end Go.Proofs
namespace Go.Proofs.YthpcbbkpjggjbaaGreatDoor
open Go.RowKit
set_option maxRecDepth 4000
def mbN (k : Int) : Int := if k = 1 then 4096 else if k = 3 then 1024 else 0
def knB (k : Int) : Bool := decide (k = 1 ∨ k = 2 ∨ k = 3)
theorem most_any (k : Int) (w : World) :
    Calls Tryz.prog 53 #[.int .i64 k] w fun e w' => e = .returned (.tuple #[.int .i64 (mbN k), .bool (knB k)]) ∧ w' = w := by
  by_cases h1 : k = 1
  · subst h1
    go_enter Tryz.func53, Tryz.ntmps53
    go_wp2_with fail
    go_ret2
    exact ⟨rfl, rfl⟩
  by_cases h2 : k = 2
  · subst h2
    go_enter Tryz.func53, Tryz.ntmps53
    go_wp2_with fail
    go_ret2
    exact ⟨rfl, rfl⟩
  by_cases h3 : k = 3
  · subst h3
    go_enter Tryz.func53, Tryz.ntmps53
    go_wp2_with fail
    go_ret2
    exact ⟨rfl, rfl⟩
  have HE : Hid (knB k = false ∧ mbN k = 0) := ⟨decide_eq_false fun h => by omega, by unfold mbN; rw [if_neg h1, if_neg h3]⟩
  have e1 : (k == 1) = false := beq_eq_false_iff_ne.2 h1
  have e2 : (k == 2) = false := beq_eq_false_iff_ne.2 h2
  have e3 : (k == 3) = false := beq_eq_false_iff_ne.2 h3
  go_enter Tryz.func53, Tryz.ntmps53
  go_wp2_with fail
  go_ret2
  exact ⟨by rw [HE.out.1, HE.out.2]; rfl, rfl⟩
theorem mb_iff {kind : Int} (hk : kind = 1 ∨ kind = 2 ∨ kind = 3) (l : List UInt8) : ((l.length : Int) > mbN kind) ↔ ((kind = 1 ∧ 4096 < l.length) ∨ (kind = 2 ∧ l ≠ []) ∨ (kind = 3 ∧ 1024 < l.length)) := by
  have h0 : l ≠ [] ↔ 0 < l.length := List.length_pos_iff.symm
  rw [h0]
  rcases hk with rfl | rfl | rfl
  · show (l.length : Int) > 4096 ↔ _
    omega
  · show (l.length : Int) > 0 ↔ _
    omega
  · show (l.length : Int) > 1024 ↔ _
    omega
theorem behind_any (a b : ByteArray) (w : World) (ha : a.size ≤ 140737488351232) (hb : b.size ≤ 140737488351232) (hT : Tabs w) :
    Calls Tryz.prog 37 #[.string a, .string b] w fun e w' => e = .returned (.bool (Nn.less b.data.toList a.data.toList).1) ∧ Below w.heap.size w w' := by
  have hl := less_any b a w hb ha hT
  generalize (Nn.less b.data.toList a.data.toList).1 = L at *
  generalize (Nn.less b.data.toList a.data.toList).2 = E at *
  clear hT
  go_enter Tryz.func37, Tryz.ntmps37
  go_wp2_with fail
  refine hl.mono ?_
  rintro e w1 ⟨rfl, b1⟩
  have HB : Hid (Below w.heap.size w w1) := b1
  clear hl b1
  go_wp2_with fail
  go_ret
  exact ⟨rfl, HB.out⟩
set_option maxHeartbeats 2000000 in
theorem citem_any (x : Im) (w : World) (hx : x.Ok) (hT : Tabs w) :
    Calls Tryz.prog 36 #[imV x] w fun e w' => e = .returned (.int .i64 (Wk.iErr x.it)) ∧ Below w.heap.size w w' := by
  obtain ⟨path, kind, mode, time, bytes⟩ := x
  obtain ⟨W1, hW1⟩ : ∃ W1, W1 = w.alloc (.cells #[.string path, .int .i64 kind, .int .i64 mode, .int .i64 time, .string bytes] 27) := ⟨_, rfl⟩
  have hB1 : Below w.heap.size w W1 := by rw [hW1]; exact (Below.refl _ w).alloc (Nat.le_refl _) _
  have HB1 : Hid (Below w.heap.size w W1) := hB1
  have HM : Hid (W1.heap[w.heap.size]? = some (.cells #[.string path, .int .i64 kind, .int .i64 mode, .int .i64 time, .string bytes] 27 (0, 0))) := by rw [hW1]; exact heap_alloc_new w _
  have hsp := split_any path W1 (by have := hx.path; have : path.size ≤ 140737488351232 := this; omega) (hT.below hB1)
  have hmost := fun W => most_any kind W
  obtain ⟨E, hE⟩ : ∃ E, E = Wk.iErr (Im.it ⟨path, kind, mode, time, bytes⟩) := ⟨_, rfl⟩
  rw [← hE]
  have hbz : bytes.data.toList.length = bytes.size := (Lib.size_eq bytes).symm
  have HE : Hid (E = if (Nn.split path.data.toList).2 ≠ 0 then (Nn.split path.data.toList).2 else if (Nn.split path.data.toList).1 = [] then 8 else if kind ≠ 1 ∧ kind ≠ 2 ∧ kind ≠ 3 then 5 else if mode < 0 ∨ 511 < mode then 1
      else if (kind = 1 ∧ 4096 < bytes.data.toList.length) ∨ (kind = 2 ∧ bytes.data.toList ≠ []) ∨ (kind = 3 ∧ 1024 < bytes.data.toList.length) then 2 else if kind = 3 ∧ bytes.data.toList = [] then 4 else 0) := hE
  rw [hbz] at HE
  have HMb : Hid (∀ n : Int, n = mbN kind → knB kind = true → (((bytes.size : Int) > n) ↔ ((kind = 1 ∧ 4096 < bytes.size) ∨ (kind = 2 ∧ bytes.data.toList ≠ []) ∨ (kind = 3 ∧ 1024 < bytes.size)))) := by
    intro n hn hk
    have hk' : kind = 1 ∨ kind = 2 ∨ kind = 3 := of_decide_eq_true hk
    subst hn
    have := mb_iff hk' bytes.data.toList
    rw [hbz] at this
    exact this
  have HKn : Hid (knB kind = false ↔ (kind ≠ 1 ∧ kind ≠ 2 ∧ kind ≠ 3)) := by
    show _ ↔ _
    unfold knB
    rw [decide_eq_false_iff_not]
    omega
  unfold SpOut at hsp
  rcases hS : Nn.split path.data.toList with ⟨sl, se⟩
  rw [hS] at hsp HE
  dsimp only at hsp HE
  have hbz2 : bytes.size ≤ 140737488351232 := hx.bytes
  obtain ⟨m0, m1, m2, m3, m4, mlt⟩ := five_at HM.out
  generalize hmb : mbN kind = MB at *
  generalize hkn : knB kind = KN at *
  clear hE hbz hx hT hB1 hS
  go_enter Tryz.func36, Tryz.ntmps36
  go_wp2_with fail
  rw [← hW1]
  clear hW1
  refine hsp.mono ?_
  rintro e w2 ⟨v, l, rfl, hdl, htx, _, b2⟩
  have HB2 : Hid (Below w.heap.size w w2) := HB1.out.trans (b2.mono HB1.out.size)
  obtain ⟨n0, n1, n2, n3, n4, nlt⟩ := five_at ((b2.block _ (Array.getElem?_eq_some_iff.1 HM.out).1).trans HM.out)
  obtain ⟨a, c, rfl⟩ := htx.slice
  have hl0 : l.length = 0 ↔ sl = [] := by
    rw [← dl_length, hdl]
    exact List.length_eq_zero_iff
  have HL0 : Hid (l.length = 0 ↔ sl = []) := hl0
  generalize l.length = LN at *
  clear hsp b2 htx hdl m0 m1 m2 m3 m4 mlt hl0
  by_cases c1 : se = 0
  case neg =>
    have hne : (se != 0) = true := by rw [bne_iff_ne]; exact c1
    have HEe : Hid (E = se) := by show _ = _; rw [HE.out, if_pos c1]
    clear HE c1
    go_wp2_with fail
    go_ret
    exact ⟨by rw [HEe.out]; rfl, HB2.out⟩
  have hne : (se != 0) = false := by rw [c1]; rfl
  by_cases c2 : LN = 0
  · have HEe : Hid (E = 8) := by show _ = _; rw [HE.out, if_neg (fun q => q c1), if_pos (HL0.out.1 c2)]
    subst c2
    clear HE c1
    go_wp2_with fail
    go_ret
    exact ⟨by rw [HEe.out]; rfl, HB2.out⟩
  have c2' : ¬ sl = [] := fun q => c2 (HL0.out.2 q)
  have hl1 : (((LN : Nat) : Int) == 0) = false := by rw [beq_eq_false_iff_ne]; omega
  cases KN with
  | false =>
    have HEe : Hid (E = 5) := by show _ = _; rw [HE.out, if_neg (fun q => q c1), if_neg c2', if_pos (HKn.out.1 rfl)]
    clear HE c1 c2 c2' HMb HKn
    go_wp2_with fail
    refine (hmost _).mono ?_
    rintro e u ⟨rfl, hu⟩
    obtain rfl := hu.symm
    go_wp2_with fail
    go_ret
    exact ⟨by rw [HEe.out]; rfl, HB2.out⟩
  | true =>
    have c3 : ¬ (kind ≠ 1 ∧ kind ≠ 2 ∧ kind ≠ 3) := fun q => by have := HKn.out.2 q; cases this
    have hMb := HMb.out MB rfl rfl
    have HE2 : Hid (E = if mode < 0 ∨ 511 < mode then 1 else if (bytes.size : Int) > MB then 2 else if kind = 3 ∧ bytes.data.toList = [] then 4 else 0) := by
      show _ = _
      rw [HE.out, if_neg (fun q => q c1), if_neg c2', if_neg c3]
      by_cases q : (bytes.size : Int) > MB
      · rw [if_pos q, if_pos (hMb.1 q)]
      · rw [if_neg q, if_neg (fun z => q (hMb.2 z))]
    clear HE c1 c2 c2' HMb HKn c3 hMb hkn
    go_wp2_with fail
    refine (hmost _).mono ?_
    rintro e u ⟨rfl, hu⟩
    obtain rfl := hu.symm
    clear hmost hu hmb
    by_cases q1 : mode < 0
    · have HEe : Hid (E = 1) := by show _ = _; rw [HE2.out, if_pos (.inl q1)]
      clear HE2
      go_wp2_with fail
      go_ret
      exact ⟨by rw [HEe.out]; rfl, HB2.out⟩
    by_cases q2 : 511 < mode
    · have HEe : Hid (E = 1) := by show _ = _; rw [HE2.out, if_pos (.inr q2)]
      clear HE2
      go_wp2_with fail
      go_ret
      exact ⟨by rw [HEe.out]; rfl, HB2.out⟩
    by_cases q3 : (bytes.size : Int) > MB
    · have HEe : Hid (E = 2) := by show _ = _; rw [HE2.out, if_neg (by omega), if_pos q3]
      clear HE2
      go_wp2_with fail
      go_ret
      exact ⟨by rw [HEe.out]; rfl, HB2.out⟩
    by_cases q4 : kind = 3
    · by_cases q5 : bytes = ⟨#[]⟩
      · have HEe : Hid (E = 4) := by show _ = _; rw [HE2.out, if_neg (by omega), if_neg q3, if_pos ⟨q4, by rw [q5]⟩]
        subst q4
        subst q5
        clear HE2
        go_wp2_with fail
        go_ret
        exact ⟨by rw [HEe.out]; rfl, HB2.out⟩
      · have HEe : Hid (E = 0) := by show _ = _; rw [HE2.out, if_neg (by omega), if_neg q3, if_neg (fun z => q5 (of_data z.2))]
        have hne5 : bytes.toList.isEmpty = false := by
          rw [Lib.toList_data]
          cases h : bytes.data.toList with
          | nil => exact absurd (of_data h) q5
          | cons b r => rfl
        subst q4
        clear HE2
        go_wp2_with fail
        go_ret
        exact ⟨by rw [HEe.out]; rfl, HB2.out⟩
    · have HEe : Hid (E = 0) := by show _ = _; rw [HE2.out, if_neg (by omega), if_neg q3, if_neg (fun z => q4 z.1)]
      have hk3 : (kind == 3) = false := beq_eq_false_iff_ne.2 q4
      clear HE2
      go_wp2_with fail
      go_ret
      exact ⟨by rw [HEe.out]; rfl, HB2.out⟩
end Go.Proofs.YthpcbbkpjggjbaaGreatDoor
namespace Go.Proofs.YthpcbbkpjggjbaaGreatDoor
open Go.RowKit
set_option maxRecDepth 4000
theorem info_stx : (Tryz.prog.info? 9).map (fun i => (i.zero, i.size, i.bytes)) = some (some (.string ⟨#[]⟩), 1, 16) := by kernel_rfl
theorem wErr_step {l : List Im} {j : Nat} {x : Im} (hx : l[j]? = some x) : Wk.wErrF (its (l.take j)) (its (l.drop j)) = if Wk.iErr x.it ≠ 0 then Wk.iErr x.it else if Wk.late (its (l.take j)) x.it = true then 4 else if Wk.lies (its (l.take j)) x.it = false then 9 else Wk.wErrF (its (l.take (j + 1))) (its (l.drop (j + 1))) := by
  have hlt := (List.getElem?_eq_some_iff.1 hx).1
  have e0 : its (l.drop j) = x.it :: its (l.drop (j + 1)) := by
    rw [List.drop_eq_getElem_cons hlt, (List.getElem?_eq_some_iff.1 hx).2]; rfl
  have e1 : its (l.take (j + 1)) = its (l.take j) ++ [x.it] := by
    rw [List.take_succ_eq_append_getElem hlt, (List.getElem?_eq_some_iff.1 hx).2]; simp [its]
  rw [e0, Wk.wErrF, e1]
theorem late_at {l : List Im} {j : Nat} {x y : Im} (hy : l[j]? = some y) : Wk.late (its (l.take (j + 1))) x.it = !(Nn.less y.path.data.toList x.path.data.toList).1 := by
  have hlt := (List.getElem?_eq_some_iff.1 hy).1
  have e1 : its (l.take (j + 1)) = its (l.take j) ++ [y.it] := by
    rw [List.take_succ_eq_append_getElem hlt, (List.getElem?_eq_some_iff.1 hy).2]; simp [its]
  unfold Wk.late
  rw [e1, List.getLast?_concat]
  rfl
theorem dirs_more {l : List Im} {j : Nat} {x : Im} (hx : l[j]? = some x) : Wk.dirs (its (l.take (j + 1))) = if x.kind = 2 then Wk.dirs (its (l.take j)) ++ [x.it.path] else Wk.dirs (its (l.take j)) := by
  have hlt := (List.getElem?_eq_some_iff.1 hx).1
  have e1 : its (l.take (j + 1)) = its (l.take j) ++ [x.it] := by
    rw [List.take_succ_eq_append_getElem hlt, (List.getElem?_eq_some_iff.1 hx).2]; simp [its]
  rw [e1, Wk.dirs_snoc]
  rfl
theorem cont_dirs {D : List ByteArray} {L : List Wk.Bs} (h : dl D = L) (p : Wk.Bs) : Lib.containsS D (mkB p) = decide (p ∈ L) := by
  rw [Bool.eq_iff_iff, Lib.containsS_iff, decide_eq_true_eq, ← h]
  constructor
  · intro hm
    exact List.mem_map.2 ⟨_, hm, rfl⟩
  · intro hm
    obtain ⟨b, hb, e⟩ := List.mem_map.1 hm
    have : b = mkB p := by
      rw [mkB, ← e]
    rw [← this]; exact hb
set_option maxHeartbeats 4000000 in
set_option maxRecDepth 10000 in
theorem wcheck_any (v : Value) (l : List Im) (w : World) (h : Ims w v l) (hl : l.length ≤ 140737488351232) (hok : ∀ x ∈ l, x.Ok) (hT : Tabs w) :
    Calls Tryz.prog 22 #[v] w fun e w' => e = .returned (.int .i64 (Wk.world (its l))) ∧ Below w.heap.size w w' := by
  obtain ⟨i0, hi, hz0, hz1, hz2⟩ := info_parts info_stx
  obtain ⟨a, c, rfl, hlc1, hlc2⟩ := h.slice
  by_cases h100 : 100 < l.length
  · have HE : Hid (Wk.world (its l) = 2) := by show _ = _; unfold Wk.world; rw [if_pos (by rw [its_length]; exact h100)]
    generalize l.length = n at *
    go_enter Tryz.func22, Tryz.ntmps22
    go_wp2_with fail
    go_ret
    exact ⟨by rw [HE.out]; rfl, Below.refl _ _⟩
  have HE0 : Hid (Wk.world (its l) = Wk.wErrF (its (l.take 0)) (its (l.drop 0))) := by
    show _ = _; unfold Wk.world; rw [if_neg (by rw [its_length]; exact h100)]; rfl
  obtain ⟨R, hR⟩ : ∃ R, R = Wk.world (its l) := ⟨_, rfl⟩
  rw [← hR] at HE0 ⊢
  have HX : Hid (Ims w (.slice a l.length c) l) := h
  have HK : Hid (∀ x ∈ l, x.Ok) := hok
  have HT : Hid (Tabs w) := hT
  have hl100 : l.length ≤ 100 := by omega
  obtain ⟨N, hN⟩ : ∃ N, N = l.length := ⟨_, rfl⟩
  have HN : Hid (N = l.length) := hN
  rw [← hN] at HX hl100 hlc1 hl ⊢
  have HD1 : Hid ((w.alloc (.cells #[.string ⟨#[]⟩] 9)).ownsRow w.heap.size 9 1 (.slice (some ⟨w.heap.size, 0, none⟩) 1 1) [mkB []].length ([mkB []].map Tv)) :=
    ⟨by simp, .inr ⟨w.heap.size, 1, #[.string ⟨#[]⟩], rfl, Nat.le_refl _, heap_alloc_new w _, Nat.le_refl _, by unfold maxLen; simp, rfl, rfl⟩⟩
  have HB1 : Hid (Below w.heap.size w (w.alloc (.cells #[.string ⟨#[]⟩] 9))) := (Below.refl _ w).alloc (Nat.le_refl _) _
  clear h hok hT h100 hR hN
  go_enter Tryz.func22, Tryz.ntmps22
  go_wp2_with fail
  go_loopw [3, 13] (fun vd i wr => ∃ (j : Nat) (D : List ByteArray), j ≤ N ∧ i = .int .i64 j ∧ D.length ≤ j + 1 ∧ Hid (dl D = Wk.dirs (its (l.take j))) ∧ Hid (R = Wk.wErrF (its (l.take j)) (its (l.drop j))) ∧ Hid (wr.ownsRow w.heap.size 9 1 vd D.length (D.map Tv)) ∧ Hid (Below w.heap.size w wr)) (fun _ i _ => N - (intOf i).toNat)
  case atStart => exact ⟨0, [mkB []], by omega, rfl, by simp, rfl, HE0, HD1, HB1⟩
  case round =>
    clear HE0 HD1 HB1
    obtain ⟨j, D, hj, rfl, hDj, HD, HE, HO, HB⟩ := hrel
    by_cases hlt : j < N
    · have hjl : j < l.length := by rw [← HN.out]; exact hlt
      obtain ⟨x, hx⟩ : ∃ x, l[j]? = some x := ⟨_, List.getElem?_eq_getElem hjl⟩
      have hxo := HK.out x (List.mem_of_getElem? hx)
      have hst := wErr_step hx
      have HSt : Hid (R = if Wk.iErr x.it ≠ 0 then Wk.iErr x.it else if Wk.late (its (l.take j)) x.it = true then 4 else if Wk.lies (its (l.take j)) x.it = false then 9 else Wk.wErrF (its (l.take (j + 1))) (its (l.drop (j + 1)))) := by
        show _ = _; rw [HE.out, hst]
      have HDm := dirs_more hx
      rw [← HD.out] at HDm
      have hXr := HX.out.below HB.out
      rw [HN.out] at hXr
      obtain ⟨kb, ko, rfl, hkb, x0, x1, x2, x3, x4⟩ := hXr.item j x hx
      have hci := fun W (hW : Below w.heap.size w W) => citem_any x W hxo (HT.out.below hW)
      obtain ⟨a3, c3, e3⟩ := own_form HO.out
      subst e3
      have hok1 : Wk.iErr x.it = 0 → Wk.Ok1 x.it := fun q => Wk.iErr_ok q
      have HP : Hid (Wk.iErr x.it = 0 → (∀ W, Calls Tryz.prog 39 #[.string x.path] W fun e w' => e = .returned (.string (mkB (Wk.par x.it))) ∧ w' = W) ∧ Wk.lies (its (l.take j)) x.it = decide (Wk.par x.it ∈ Wk.dirs (its (l.take j)))) := fun q =>
        ⟨fun W => parent_any x.path (Wk.par x.it) (Wk.nam x.it) W (path_parts (Wk.iErr_ok q)) (Wk.nam_slash (Wk.iErr_ok q)) (path_size (Wk.iErr_ok q) hxo.path), Wk.lies_dirs (Wk.iErr_ok q)⟩
      have HDm2 : Hid (Wk.dirs (its (l.take (j + 1))) = if x.kind = 2 then dl D ++ [x.it.path] else dl D) := HDm
      have HPt : Hid (mkB x.it.path = x.path) := rfl
      obtain ⟨WA, hWA⟩ : ∃ WA, WA = wr.alloc (.cells #[.string x.path, .int .i64 x.kind, .int .i64 x.mode, .int .i64 x.time, .string x.bytes] 27) := ⟨_, rfl⟩
      have hbA : Below wr.heap.size wr WA := by rw [hWA]; exact (Below.refl _ wr).alloc (Nat.le_refl _) _
      have HM : Hid (WA.heap[wr.heap.size]? = some (.cells #[.string x.path, .int .i64 x.kind, .int .i64 x.mode, .int .i64 x.time, .string x.bytes] 27 (0, 0))) := by rw [hWA]; exact heap_alloc_new wr _
      have HBA : Hid (Below w.heap.size w WA) := HB.out.trans (hbA.mono HB.out.size)
      have HOA : Hid (WA.ownsRow w.heap.size 9 1 (.slice a3 D.length c3) D.length (D.map Tv)) := own_below HO.out hbA
      have hciA := hci WA HBA.out
      obtain ⟨PB, hPB⟩ : ∃ PB, PB = wr.heap.size := ⟨_, rfl⟩
      have HPB : Hid (w.heap.size ≤ PB) := by show _ ≤ _; rw [hPB]; exact HB.out.size
      have HPl : Hid (x.path.size ≤ 140737488351232) := hxo.path
      rw [← hPB] at HM
      obtain ⟨DN, hDN⟩ : ∃ DN, DN = D.length := ⟨_, rfl⟩
      have HDN : Hid (DN = D.length) := hDN
      rw [← hDN] at HOA hDj ⊢
      have HHx : Hid (l[j]? = some x) := hx
      obtain ⟨xp, xk, xm, xt, xb⟩ := x
      dsimp only at *
      clear hst HDm hXr hci hbA hx hxo hok1 HE HO HB hDN
      go_wp2_with fail
      rw [← hWA]
      refine hciA.mono ?_
      rintro e w2 ⟨rfl, b2⟩
      have HB2 : Hid (Below w.heap.size w w2) := HBA.out.trans (b2.mono HBA.out.size)
      have hM2 : w2.heap[PB]? = some (.cells #[.string xp, .int .i64 xk, .int .i64 xm, .int .i64 xt, .string xb] 27 (0, 0)) := (b2.block _ (Array.getElem?_eq_some_iff.1 HM.out).1).trans HM.out
      have HM2 : Hid (w2.heap[PB]? = some (.cells #[.string xp, .int .i64 xk, .int .i64 xm, .int .i64 xt, .string xb] 27 (0, 0))) := hM2
      have HO2 : Hid (w2.ownsRow w.heap.size 9 1 (.slice a3 DN c3) DN (D.map Tv)) := own_below HOA.out b2
      obtain ⟨y0, y1, y2, y3, y4, ylt⟩ := five_at hM2
      rw [← hPB]
      clear hWA hciA b2 hM2 x0 x1 x2 x3 x4 hkb HM HOA HBA hPB
      by_cases hE : Wk.iErr (Im.it ⟨xp, xk, xm, xt, xb⟩) = 0
      case neg =>
        have HRe : Hid (R = Wk.iErr (Im.it ⟨xp, xk, xm, xt, xb⟩)) := by show _ = _; rw [HSt.out, if_pos hE]
        have hne : (Wk.iErr (Im.it ⟨xp, xk, xm, xt, xb⟩) != 0) = true := by rw [bne_iff_ne]; exact hE
        generalize Wk.iErr (Im.it ⟨xp, xk, xm, xt, xb⟩) = ER at *
        clear hE HSt HP
        go_wp2_with fail
        go_ret
        exact ⟨by rw [HRe.out]; rfl, HB2.out⟩
      obtain ⟨hpar, hlies⟩ := HP.out hE
      have HSt2 : Hid (R = if Wk.late (its (l.take j)) (Im.it ⟨xp, xk, xm, xt, xb⟩) = true then 4 else if Wk.lies (its (l.take j)) (Im.it ⟨xp, xk, xm, xt, xb⟩) = false then 9 else Wk.wErrF (its (l.take (j + 1))) (its (l.drop (j + 1)))) := by
        show _ = _; rw [HSt.out, if_neg (fun q => q hE)]
      rw [hE]
      obtain ⟨LT, hLT⟩ : ∃ LT, LT = Wk.late (its (l.take j)) (Im.it ⟨xp, xk, xm, xt, xb⟩) := ⟨_, rfl⟩
      have HLT : Hid (LT = Wk.late (its (l.take j)) (Im.it ⟨xp, xk, xm, xt, xb⟩)) := hLT
      clear HSt HP hLT hE
      go_upto_region 10 with fail
      go_cut [36] from 14 to 51 (fun y wx => y = .bool LT ∧ Hid (Below w.heap.size w wx ∧ Below w2.heap.size w2 wx))
      case first =>
        by_cases hj0 : j = 0
        · subst hj0
          have HL0 : Hid (LT = false) := by show _ = _; rw [HLT.out]; rfl
          have hd : decide ((0 : Int) > 0) = false := by decide
          go_region
          all_goals
            go_wp2_with fail
            go_meet
            exact ⟨by rw [HL0.out], HB2.out.drew, (Below.refl _ w2).drew⟩
        · obtain ⟨i, rfl⟩ : ∃ i, j = i + 1 := ⟨j - 1, by omega⟩
          have hil : i < l.length := by omega
          obtain ⟨y, hy⟩ : ∃ y, l[i]? = some y := ⟨_, List.getElem?_eq_getElem hil⟩
          have hyo := HK.out y (List.mem_of_getElem? hy)
          have hla := late_at (x := ⟨xp, xk, xm, xt, xb⟩) hy
          have hX2 := HX.out.below HB2.out
          rw [HN.out] at hX2
          obtain ⟨kb', ko', ee, hkb', u0, _⟩ := hX2.item i y hy
          cases ee
          have hbeh := fun W (hW : Below w2.heap.size w2 W) => behind_any xp y.path W HPl.out hyo.path (HT.out.below (HB2.out.trans (hW.mono HB2.out.size)))
          have HLT' : Hid (LT = Wk.late (its (l.take (i + 1))) (Im.it ⟨xp, xk, xm, xt, xb⟩)) := HLT
          rw [hla] at HLT
          dsimp only at HLT hbeh
          generalize (Nn.less y.path.data.toList xp.data.toList).1 = LS at *
          have hd : decide (((i : Int) + 1) > 0) = true := decide_eq_true (by omega)
          have hij : ((i : Int) + 1 - 1) = i := by omega
          have hgt : ((i : Int) + 1 > 0) := by omega
          have hwr : IntKind.i64.wrap (i : Int) = (i : Int) := by
            simp only [IntKind.wrap, IntKind.bits, IntKind.signed]
            simp
            omega
          have HcX : Hid (∀ W, Gw w2 W → W.cell? ⟨PB, 0, none⟩ = some (.string xp)) := fun W hW => (Below.cell hW (p := ⟨PB, 0, none⟩) ylt).trans y0
          have HcY : Hid (∀ W, Gw w2 W → W.cell? ⟨kb, ko + i * 5, none⟩ = some (.string y.path)) := fun W hW => (Below.cell hW (p := ⟨kb, ko + i * 5, none⟩) hkb').trans u0
          have hiN : (i : Int) < (N : Int) := by omega
          generalize y.path = yp at *
          clear hla hX2 hyo hy hil hj0 hjl HHx
          cases LS with
          | true =>
            have HLf : Hid (LT = false) := HLT
            refine wp_region_rel (G := Gw) (W0 := w2) Gw.refl Gw.trans (by kernel_rfl) (by kernel_rfl) (by kernel_rfl) (Below.refl _ w2).drew ?_
            refine .inl ⟨.int .i64 ((i : Int) + 1), fun v W hW hd => step_run rfl _ W (by clear hd; go_simp) rfl (Gw.refl _), ?_⟩
            simp only [Act.put, List.setIfInBounds_toArray, List.set_cons_zero, List.set_cons_succ]
            refine .inl ⟨.bool true, fun v W hW hd => step_run rfl _ W (by clear hd; have he := hgt; go_simp) rfl (Gw.refl _), ?_⟩
            simp only [Act.put, List.setIfInBounds_toArray, List.set_cons_zero, List.set_cons_succ]
            refine .inl ⟨.bool true, fun v W hW hd => step_run rfl _ W (by clear hd; go_simp) rfl (Gw.refl _), ?_⟩
            simp only [Act.put, List.setIfInBounds_toArray, List.set_cons_zero, List.set_cons_succ]
            refine .inl ⟨.pointer (some ⟨PB, 0, none⟩), fun v W hW hd => step_run rfl _ W (by clear hd; go_simp) rfl (Gw.refl _), ?_⟩
            simp only [Act.put, List.setIfInBounds_toArray, List.set_cons_zero, List.set_cons_succ]
            refine .inl ⟨.string xp, fun v W hW hd => step_run rfl _ W (by clear hd; have ce := HcX.out W hW; go_simp) rfl (Gw.refl _), ?_⟩
            simp only [Act.put, List.setIfInBounds_toArray, List.set_cons_zero, List.set_cons_succ]
            refine .inl ⟨.slice (some ⟨kb, ko, none⟩) N c, fun v W hW hd => step_run rfl _ W (by clear hd; go_simp) rfl (Gw.refl _), ?_⟩
            simp only [Act.put, List.setIfInBounds_toArray, List.set_cons_zero, List.set_cons_succ]
            refine .inl ⟨.int .i64 ((i : Int) + 1), fun v W hW hd => step_run rfl _ W (by clear hd; go_simp) rfl (Gw.refl _), ?_⟩
            simp only [Act.put, List.setIfInBounds_toArray, List.set_cons_zero, List.set_cons_succ]
            refine .inl ⟨.int .i64 (i : Int), fun v W hW hd => step_run rfl _ W (by clear hd; have he := hij; have hf := hwr; go_simp) rfl (Gw.refl _), ?_⟩
            simp only [Act.put, List.setIfInBounds_toArray, List.set_cons_zero, List.set_cons_succ]
            refine .inl ⟨.pointer (some ⟨kb, ko + i * 5, none⟩), fun v W hW hd => step_run rfl _ W (by clear hd; go_simp) rfl (Gw.refl _), ?_⟩
            simp only [Act.put, List.setIfInBounds_toArray, List.set_cons_zero, List.set_cons_succ]
            refine .inl ⟨.pointer (some ⟨kb, ko + i * 5, none⟩), fun v W hW hd => step_run rfl _ W (by clear hd; go_simp) rfl (Gw.refl _), ?_⟩
            simp only [Act.put, List.setIfInBounds_toArray, List.set_cons_zero, List.set_cons_succ]
            refine .inl ⟨.string yp, fun v W hW hd => step_run rfl _ W (by clear hd; have ce := HcY.out W hW; go_simp) rfl (Gw.refl _), ?_⟩
            simp only [Act.put, List.setIfInBounds_toArray, List.set_cons_zero, List.set_cons_succ]
            refine .inl ⟨.bool true, fun v W hW hd => step_call rfl 37 #[.string xp, .string yp] (by clear hd; go_simp) ((hbeh W hW).mono fun e w' h => ⟨_, h.1, rfl, h.2⟩), ?_⟩
            simp only [Act.put, List.setIfInBounds_toArray, List.set_cons_zero, List.set_cons_succ]
            refine .inl ⟨.bool false, fun v W hW hd => step_run rfl _ W (by clear hd; go_simp) rfl (Gw.refl _), ?_⟩
            simp only [Act.put, List.setIfInBounds_toArray, List.set_cons_zero, List.set_cons_succ]
            refine .inl ⟨.bool false, fun v W hW hd => step_run rfl _ W (by clear hd; go_simp) rfl (Gw.refl _), ?_⟩
            simp only [Act.put, List.setIfInBounds_toArray, List.set_cons_zero, List.set_cons_succ]
            intro v w3 hW3 hV
            clear hV
            have b3 : Below w2.heap.size w2 w3 := hW3
            clear hW3
            go_wp2_with fail
            go_meet
            exact ⟨by rw [HLf.out], HB2.out.trans (b3.mono HB2.out.size), b3⟩
          | false =>
            have HLf : Hid (LT = true) := HLT
            refine wp_region_rel (G := Gw) (W0 := w2) Gw.refl Gw.trans (by kernel_rfl) (by kernel_rfl) (by kernel_rfl) (Below.refl _ w2).drew ?_
            refine .inl ⟨.int .i64 ((i : Int) + 1), fun v W hW hd => step_run rfl _ W (by clear hd; go_simp) rfl (Gw.refl _), ?_⟩
            simp only [Act.put, List.setIfInBounds_toArray, List.set_cons_zero, List.set_cons_succ]
            refine .inl ⟨.bool true, fun v W hW hd => step_run rfl _ W (by clear hd; have he := hgt; go_simp) rfl (Gw.refl _), ?_⟩
            simp only [Act.put, List.setIfInBounds_toArray, List.set_cons_zero, List.set_cons_succ]
            refine .inl ⟨.bool true, fun v W hW hd => step_run rfl _ W (by clear hd; go_simp) rfl (Gw.refl _), ?_⟩
            simp only [Act.put, List.setIfInBounds_toArray, List.set_cons_zero, List.set_cons_succ]
            refine .inl ⟨.pointer (some ⟨PB, 0, none⟩), fun v W hW hd => step_run rfl _ W (by clear hd; go_simp) rfl (Gw.refl _), ?_⟩
            simp only [Act.put, List.setIfInBounds_toArray, List.set_cons_zero, List.set_cons_succ]
            refine .inl ⟨.string xp, fun v W hW hd => step_run rfl _ W (by clear hd; have ce := HcX.out W hW; go_simp) rfl (Gw.refl _), ?_⟩
            simp only [Act.put, List.setIfInBounds_toArray, List.set_cons_zero, List.set_cons_succ]
            refine .inl ⟨.slice (some ⟨kb, ko, none⟩) N c, fun v W hW hd => step_run rfl _ W (by clear hd; go_simp) rfl (Gw.refl _), ?_⟩
            simp only [Act.put, List.setIfInBounds_toArray, List.set_cons_zero, List.set_cons_succ]
            refine .inl ⟨.int .i64 ((i : Int) + 1), fun v W hW hd => step_run rfl _ W (by clear hd; go_simp) rfl (Gw.refl _), ?_⟩
            simp only [Act.put, List.setIfInBounds_toArray, List.set_cons_zero, List.set_cons_succ]
            refine .inl ⟨.int .i64 (i : Int), fun v W hW hd => step_run rfl _ W (by clear hd; have he := hij; have hf := hwr; go_simp) rfl (Gw.refl _), ?_⟩
            simp only [Act.put, List.setIfInBounds_toArray, List.set_cons_zero, List.set_cons_succ]
            refine .inl ⟨.pointer (some ⟨kb, ko + i * 5, none⟩), fun v W hW hd => step_run rfl _ W (by clear hd; go_simp) rfl (Gw.refl _), ?_⟩
            simp only [Act.put, List.setIfInBounds_toArray, List.set_cons_zero, List.set_cons_succ]
            refine .inl ⟨.pointer (some ⟨kb, ko + i * 5, none⟩), fun v W hW hd => step_run rfl _ W (by clear hd; go_simp) rfl (Gw.refl _), ?_⟩
            simp only [Act.put, List.setIfInBounds_toArray, List.set_cons_zero, List.set_cons_succ]
            refine .inl ⟨.string yp, fun v W hW hd => step_run rfl _ W (by clear hd; have ce := HcY.out W hW; go_simp) rfl (Gw.refl _), ?_⟩
            simp only [Act.put, List.setIfInBounds_toArray, List.set_cons_zero, List.set_cons_succ]
            refine .inl ⟨.bool false, fun v W hW hd => step_call rfl 37 #[.string xp, .string yp] (by clear hd; go_simp) ((hbeh W hW).mono fun e w' h => ⟨_, h.1, rfl, h.2⟩), ?_⟩
            simp only [Act.put, List.setIfInBounds_toArray, List.set_cons_zero, List.set_cons_succ]
            refine .inl ⟨.bool true, fun v W hW hd => step_run rfl _ W (by clear hd; go_simp) rfl (Gw.refl _), ?_⟩
            simp only [Act.put, List.setIfInBounds_toArray, List.set_cons_zero, List.set_cons_succ]
            refine .inl ⟨.bool true, fun v W hW hd => step_run rfl _ W (by clear hd; go_simp) rfl (Gw.refl _), ?_⟩
            simp only [Act.put, List.setIfInBounds_toArray, List.set_cons_zero, List.set_cons_succ]
            intro v w3 hW3 hV
            clear hV
            have b3 : Below w2.heap.size w2 w3 := hW3
            clear hW3
            go_wp2_with fail
            go_meet
            exact ⟨by rw [HLf.out], HB2.out.trans (b3.mono HB2.out.size), b3⟩
      case rest =>
      obtain ⟨rfl, hbb⟩ := hcut
      have HB3 : Hid (Below w.heap.size w wc) := hbb.out.1
      have HM3 : Hid (wc.heap[PB]? = some (.cells #[.string xp, .int .i64 xk, .int .i64 xm, .int .i64 xt, .string xb] 27 (0, 0))) := (hbb.out.2.block _ (Array.getElem?_eq_some_iff.1 HM2.out).1).trans HM2.out
      have HO3 : Hid (wc.ownsRow w.heap.size 9 1 (.slice a3 DN c3) DN (D.map Tv)) := own_below HO2.out hbb.out.2
      clear HB2 HM2 HO2 hbb y0 y1 y2 y3 y4 ylt
      obtain ⟨y0, y1, y2, y3, y4, ylt⟩ := five_at HM3.out
      have hpw : PB < wc.heap.size := ylt
      cases LT with
      | true =>
        have HRe : Hid (R = 4) := by show _ = _; rw [HSt2.out, ← HLT.out]; rfl
        clear HSt2 hlies hpar
        go_wp2_with fail
        go_ret
        exact ⟨by rw [HRe.out]; rfl, HB3.out⟩
      | false =>
      have HSt3 : Hid (R = if decide (Wk.par (Im.it ⟨xp, xk, xm, xt, xb⟩) ∈ dl D) = false then 9 else Wk.wErrF (its (l.take (j + 1))) (its (l.drop (j + 1)))) := by
        show _ = _
        rw [HSt2.out, ← HLT.out, if_neg (by decide), hlies, HD.out]
      have hcont : Calls Tryz.prog 38 #[.slice a3 DN c3, .string (mkB (Wk.par (Im.it ⟨xp, xk, xm, xt, xb⟩)))] wc fun e w' => e = .returned (.bool (decide (Wk.par (Im.it ⟨xp, xk, xm, xt, xb⟩) ∈ dl D))) ∧ w' = wc := by
        have hx := Tx.of_own (w := wc) (l := D) (v := .slice a3 DN c3) (base := w.heap.size) (by rw [← HDN.out]; exact HO3.out)
        by_cases hD0 : D = []
        · subst hD0
          have : DN = 0 := HDN.out
          subst this
          exact Tryz.slices_Contains_string_empty a3 c3 _ wc
        · have hpos : 0 < D.length := List.length_pos_iff.2 hD0
          obtain ⟨bk, o, rfl, hbk, _⟩ := hx.get 0 hpos
          have := Tryz.slices_Contains_string bk o DN c3 D (mkB (Wk.par (Im.it ⟨xp, xk, xm, xt, xb⟩))) wc (by rw [HDN.out]; exact Nat.le_refl _) (by omega) (fun q hq => by
            obtain ⟨bk', o', ee, _, hc⟩ := hx.get q hq
            cases ee
            exact hc)
          rw [HDN.out, List.take_of_length_le (Nat.le_refl _), ← HDN.out, cont_dirs rfl] at this
          exact this
      generalize mkB (Wk.par (Im.it ⟨xp, xk, xm, xt, xb⟩)) = PP at *
      generalize decide (Wk.par (Im.it ⟨xp, xk, xm, xt, xb⟩) ∈ dl D) = CT at *
      clear HSt2 hlies HLT
      cases CT with
      | false =>
        have HRe : Hid (R = 9) := by show _ = _; rw [HSt3.out]; rfl
        clear HSt3
        go_wp2_with fail
        refine (hpar _).mono ?_
        rintro e u ⟨rfl, hu⟩
        obtain rfl := hu.symm
        clear hu
        go_wp2_with fail
        refine hcont.mono ?_
        rintro e u ⟨rfl, hu⟩
        obtain rfl := hu.symm
        clear hu
        go_wp2_with fail
        go_ret
        exact ⟨by rw [HRe.out]; rfl, HB3.out⟩
      | true =>
        have HRn : Hid (R = Wk.wErrF (its (l.take (j + 1))) (its (l.drop (j + 1)))) := by show _ = _; rw [HSt3.out]; rfl
        clear HSt3
        go_wp2_with fail
        refine (hpar _).mono ?_
        rintro e u ⟨rfl, hu⟩
        obtain rfl := hu.symm
        clear hu hpar
        go_wp2_with fail
        refine hcont.mono ?_
        rintro e u ⟨rfl, hu⟩
        obtain rfl := hu.symm
        clear hu hcont
        by_cases hk2 : xk = 2
        · have HDn : Hid (dl (D ++ [xp]) = Wk.dirs (its (l.take (j + 1)))) := by
            show _ = _
            rw [HDm2.out, if_pos hk2]
            show (D ++ [xp]).map _ = D.map _ ++ _
            rw [List.map_append]; rfl
          have hown := HO3.out
          have hws := HB3.out.size
          subst hk2
          go_wp2_with (at_builtin; refine wpList_append_own _ rfl (.tmp 46) (.tmp 49) 89 rfl w.heap.size 9 i0 (.string ⟨#[]⟩) 1 16 Tryz.underlying89 hi hz0 hz1 hz2 rfl (by decide) _ _ _ rfl (hown.alloc _) ⟨wc.heap.size, 0, none⟩ 1 1 [.string xp] rfl rfl ?c1 ?c2 ?c3 ?c4 ?c5 ?_)
          case c1 => intro q u hq; match q, hq with | 0, hq => simp at hq; subst hq; simp [Addr.add]
          case c2 => simp [Value.oneCell']
          case c3 => unfold maxLen; omega
          case c4 => omega
          case c5 => simp; omega
          intro v1 w5 hown5 hgrow _
          have hB5 : Below w.heap.size w w5 := (HB3.out.alloc hws _).grown hgrow (by rw [World.size_alloc]; omega) fun q hq => (hown.lt q hq).1
          have HB5 : Hid (Below w.heap.size w w5) := hB5
          have HO5 : Hid (w5.ownsRow w.heap.size 9 1 v1 (D ++ [xp]).length ((D ++ [xp]).map Tv)) := by
            show World.ownsRow _ _ _ _ _ _ _
            rw [List.length_append, ← HDN.out, List.map_append]
            exact hown5
          have hD5 : (D ++ [xp]).length ≤ j + 1 + 1 := by rw [List.length_append, ← HDN.out]; simp; omega
          clear hown5 hgrow hown hB5
          go_wp2_with fail
          go_roundw
          case measure => simp only [intOf]; omega
          case rel => exact ⟨j + 1, D ++ [xp], by omega, by go_num, hD5, HDn, HRn, HO5, HB5⟩
        · have HDn : Hid (dl D = Wk.dirs (its (l.take (j + 1)))) := by show _ = _; rw [HDm2.out, if_neg hk2]
          have hk2' : (xk == 2) = false := beq_eq_false_iff_ne.2 hk2
          have hD5 : D.length ≤ j + 1 + 1 := by rw [← HDN.out]; omega
          have HO5 : Hid (wc.ownsRow w.heap.size 9 1 (.slice a3 DN c3) D.length (D.map Tv)) := by rw [← HDN.out]; exact HO3.out
          clear hk2
          go_wp2_with fail
          go_roundw
          case measure => simp only [intOf]; omega
          case rel => exact ⟨j + 1, D, by omega, by go_num, hD5, HDn, HRn, HO5, HB3⟩
    · obtain rfl : j = N := by omega
      have HRe : Hid (R = 0) := by
        have e : l.drop j = [] := by rw [HN.out]; exact List.drop_of_length_le (Nat.le_refl _)
        show _ = _
        rw [HE.out, e]; rfl
      clear HE
      go_wp2_with fail
      go_ret
      exact ⟨by rw [HRe.out]; rfl, HB.out⟩
end Go.Proofs.YthpcbbkpjggjbaaGreatDoor
namespace Go.Proofs.YthpcbbkpjggjbaaGreatDoor
open Go.RowKit
set_option maxRecDepth 4000
set_option maxHeartbeats 16000000 in
theorem ddiff_any (va vb : Value) (a : List Im) (b : List Im) (w : World) (ha : Ims w va a) (hb : Ims w vb b) (la : a.length ≤ 140737488351232) (lb : b.length ≤ 140737488351232) (oa : ∀ x ∈ a, x.Ok) (ob : ∀ x ∈ b, x.Ok) (hT : Tabs w) :
    Calls Tryz.prog 7 #[va, vb] w fun e w' => ∃ v l, e = .returned (.tuple #[v, .int .i64 (Dl.diff (its a) (its b)).2]) ∧ w'.ownsRow w.heap.size 30 7 v l.length (rowR emC l) ∧ edl l = (Dl.diff (its a) (its b)).1 ∧ (∀ x ∈ l, x.Ok) ∧ Below w.heap.size w w' := by
  have hca := wcheck_any va a w ha la oa hT
  have HCb : Hid (∀ W, Below w.heap.size w W → Calls Tryz.prog 22 #[vb] W fun e w' => e = .returned (.int .i64 (Wk.world (its b))) ∧ Below W.heap.size W w') := fun W hW => wcheck_any vb b W (hb.below hW) lb ob (hT.below hW)
  have HSd : Hid (a.length + b.length ≤ 1000 → ∀ W, Below w.heap.size w W → Calls Tryz.prog 23 #[va, vb, .func (.func 24) #[] #[]] W fun e w' => ∃ v, e = .returned v ∧ w'.ownsRow W.heap.size 63 12 v (sdII a b).length (rowR iiC (sdII a b)) ∧ Below W.heap.size W w') := fun h W hW => sideII_any va vb a b W (ha.below hW) (hb.below hW) h oa ob (hT.below hW)
  have HP : Hid (Dl.diff (its a) (its b) = if Wk.world (its a) ≠ 0 then ([], Wk.world (its a)) else if Wk.world (its b) ≠ 0 then ([], Wk.world (its b)) else ((Dl.paths ((its a).map Wk.It.path ++ (its b).map Wk.It.path)).filterMap (Dl.diffE (its a) (its b)), 0)) := rfl
  have HT : Hid (Tabs w) := hT
  have HOa : Hid (∀ x ∈ a, x.Ok) := oa
  have HOb : Hid (∀ x ∈ b, x.Ok) := ob
  obtain ⟨RP, hRP⟩ : ∃ RP, RP = Dl.diff (its a) (its b) := ⟨_, rfl⟩
  rw [← hRP] at HP ⊢
  obtain ⟨EA, hEA⟩ : ∃ EA, EA = Wk.world (its a) := ⟨_, rfl⟩
  obtain ⟨EB, hEB⟩ : ∃ EB, EB = Wk.world (its b) := ⟨_, rfl⟩
  rw [← hEA] at hca
  rw [← hEB] at HCb
  have HEA : Hid (EA = Wk.world (its a)) := hEA
  have HEB : Hid (EB = Wk.world (its b)) := hEB
  clear ha hb la lb oa ob hT hRP hEA hEB
  go_enter Tryz.func7, Tryz.ntmps7
  go_wp2_with fail
  refine hca.mono ?_
  rintro e w1 ⟨rfl, b1⟩
  have HB1 : Hid (Below w.heap.size w w1) := b1
  clear hca b1
  by_cases c1 : EA = 0
  case neg =>
    have hne : (EA != 0) = true := by rw [bne_iff_ne]; exact c1
    have HRe : Hid (RP = ([], EA)) := by show _ = _; rw [HP.out, ← HEA.out, if_pos c1]
    clear HP HSd HCb
    go_wp2_with fail
    go_ret2
    exact ⟨_, [], by rw [HRe.out]; rfl, World.ownsRow_nil _ _ _ _, by rw [HRe.out]; rfl, fun x hx => absurd hx List.not_mem_nil, HB1.out⟩
  have hne : (EA != 0) = false := by rw [c1]; rfl
  have HEA0 : Hid (Wk.world (its a) = 0) := by show _ = _; rw [← HEA.out]; exact c1
  go_wp2_with fail
  refine (HCb.out _ HB1.out).mono ?_
  rintro e w2 ⟨rfl, b2⟩
  have HB2 : Hid (Below w.heap.size w w2) := HB1.out.trans (b2.mono HB1.out.size)
  clear HCb b2 hne c1
  by_cases c2 : EB = 0
  case neg =>
    have hne : (EB != 0) = true := by rw [bne_iff_ne]; exact c2
    have HRe : Hid (RP = ([], EB)) := by show _ = _; rw [HP.out, if_neg (fun q => q HEA0.out), ← HEB.out, if_pos c2]
    clear HP HSd
    go_wp2_with fail
    go_ret2
    exact ⟨_, [], by rw [HRe.out]; rfl, World.ownsRow_nil _ _ _ _, by rw [HRe.out]; rfl, fun x hx => absurd hx List.not_mem_nil, HB2.out⟩
  have hne : (EB != 0) = false := by rw [c2]; rfl
  have HEB0 : Hid (Wk.world (its b) = 0) := by show _ = _; rw [← HEB.out]; exact c2
  have hlen : a.length + b.length ≤ 1000 := by
    have h1 := (Dl.wld HEA0.out).1; have h2 := (Dl.wld HEB0.out).1; rw [its_length] at h1 h2; omega
  have hside := HSd.out hlen _ HB2.out
  obtain ⟨S, hS⟩ : ∃ S, S = sdII a b := ⟨_, rfl⟩
  have HS : Hid (S = sdII a b) := hS
  have HS3 : Hid (S.length ≤ 1000) := by
    show _ ≤ _
    rw [hS]
    exact Nat.le_trans (Dl.side_len _ _) hlen
  rw [← hS] at hside
  clear HSd c2 hlen hS
  go_wp2_with fail
  refine hside.mono ?_
  rintro e w4 ⟨vs, rfl, hs, b4⟩
  have HB4 : Hid (Below w.heap.size w w4) := HB2.out.trans (b4.mono HB2.out.size)
  have hR := Rx.of_own (C := iiC) (k := 12) iiC_len hs
  obtain ⟨sa, sc, rfl⟩ := own_form hs
  obtain ⟨N, hN⟩ : ∃ N, N = S.length := ⟨_, rfl⟩
  have HN : Hid (N = S.length) := hN
  rw [← hN] at hR ⊢
  have HR : Hid (Rx 12 iiC w4 (.slice sa N sc) S) := hR
  have hN3 : N ≤ 1000 := by have := HN.out; have := HS3.out; omega
  clear hside hs b4 hR hN hne
  go_wp2_with fail
  go_loopw [8, 25] (fun s i wr => ∃ k : Nat, k ≤ N ∧ i = .int .i64 k ∧ Hid (wr.ownsRow w4.heap.size 30 7 s ((S.take k).filterMap tD).length (rowR emC ((S.take k).filterMap tD))) ∧ Hid (Below w4.heap.size w4 wr)) (fun _ i _ => N - (intOf i).toNat)
  case atStart => exact ⟨0, by omega, rfl, World.ownsRow_nil _ _ _ _, Below.refl _ _⟩
  case round =>
    obtain ⟨k, hk, rfl, HO, HB⟩ := hrel
    by_cases hlt : k < N
    · obtain ⟨z, ht⟩ : ∃ z, S[k]? = some z := ⟨_, List.getElem?_eq_getElem (by have := HN.out; omega)⟩
      have hz := side_in a b z (by have := List.mem_of_getElem? ht; rw [HS.out] at this; exact this)
      obtain ⟨bk, o, rfl, hbk, hc⟩ := (HR.out.below HB.out).get k z ht
      obtain ⟨zx, zy⟩ := z
      cases zx with
      | none =>
        cases zy with
        | none => exact absurd hz.1 (by simp)
        | some y =>
          obtain ⟨yp, yk, ym, yt, yb⟩ := y
          have c0 : wr.cell? ⟨bk, o + k * 12, none⟩ = some (.string ⟨#[]⟩) := hc 0 _ rfl
          have c1 : wr.cell? ⟨bk, o + k * 12 + 1, none⟩ = some (.int .i64 0) := hc 1 _ rfl
          have c2 : wr.cell? ⟨bk, o + k * 12 + 2, none⟩ = some (.int .i64 0) := hc 2 _ rfl
          have c3 : wr.cell? ⟨bk, o + k * 12 + 3, none⟩ = some (.int .i64 0) := hc 3 _ rfl
          have c4 : wr.cell? ⟨bk, o + k * 12 + 4, none⟩ = some (.string ⟨#[]⟩) := hc 4 _ rfl
          have c5 : wr.cell? ⟨bk, o + k * 12 + 5, none⟩ = some (.string yp) := hc 5 _ rfl
          have c6 : wr.cell? ⟨bk, o + k * 12 + 6, none⟩ = some (.int .i64 yk) := hc 6 _ rfl
          have c7 : wr.cell? ⟨bk, o + k * 12 + 7, none⟩ = some (.int .i64 ym) := hc 7 _ rfl
          have c8 : wr.cell? ⟨bk, o + k * 12 + 8, none⟩ = some (.int .i64 yt) := hc 8 _ rfl
          have c9 : wr.cell? ⟨bk, o + k * 12 + 9, none⟩ = some (.string yb) := hc 9 _ rfl
          have c10 : wr.cell? ⟨bk, o + k * 12 + 10, none⟩ = some (.bool false) := hc 10 _ rfl
          have c11 : wr.cell? ⟨bk, o + k * 12 + 11, none⟩ = some (.bool true) := hc 11 _ rfl
          clear hc
          obtain ⟨s2, W6, hr6, ho6, hg6⟩ := more_ae w4.heap.size u8 ((S.take k).filterMap tD) (⟨yp, false, ⟨yp, yk, ym, yt, yb⟩⟩ : Em) ((wr.alloc (.cells #[.string ⟨#[]⟩, .int .i64 0, .int .i64 0, .int .i64 0, .string ⟨#[]⟩, .string yp, .int .i64 yk, .int .i64 ym, .int .i64 yt, .string yb, .bool false, .bool true] 63)).alloc (.cells #[.string yp, .bool false, .string yp, .int .i64 yk, .int .i64 ym, .int .i64 yt, .string yb] 30)) ((HO.out.alloc _).alloc _) (wr.heap.size + 1) (by rw [show wr.heap.size + 1 = (wr.alloc (.cells #[.string ⟨#[]⟩, .int .i64 0, .int .i64 0, .int .i64 0, .string ⟨#[]⟩, .string yp, .int .i64 yk, .int .i64 ym, .int .i64 yt, .string yb, .bool false, .bool true] 63)).heap.size from by simp]; exact heap_alloc_new _ _) (by have h1 := List.length_filterMap_le tD (S.take k); rw [List.length_take] at h1; have := HS3.out; have := HN.out; omega) (by have := HB.out.size; simp; omega)
          have HO6 : Hid (W6.ownsRow w4.heap.size 30 7 s2 ((S.take (k + 1)).filterMap tD).length (rowR emC ((S.take (k + 1)).filterMap tD))) := by
            rw [told_step ht, show tD (none, some ⟨yp, yk, ym, yt, yb⟩) = some (⟨yp, false, ⟨yp, yk, ym, yt, yb⟩⟩ : Em) from by rfl, Option.toList_some]; exact ho6
          have HB6 : Hid (Below w4.heap.size w4 W6) := (((HB.out.alloc HB.out.size _).alloc (by have := HB.out.size; simp; omega) _)).grown hg6 (by have := HB.out.size; simp; omega) fun g hg => (HO.out.lt g hg).1
          clear ho6 hg6 ht
          go_wp2_with (at_builtin; refine wpL_append_run rfl (.tmp 49) (.tmp 56) 23 23 rfl rfl _ _ s2 W6 rfl rfl hr6 ?_)
          clear hr6 c0 c1 c2 c3 c4 c5 c6 c7 c8 c9 c10 c11
          go_roundw
          case measure => simp only [intOf]; omega
          case rel => exact ⟨k + 1, by omega, by go_num, HO6, HB6⟩
      | some x =>
        cases zy with
        | none =>
          obtain ⟨xp, xk, xm, xt, xb⟩ := x
          have c0 : wr.cell? ⟨bk, o + k * 12, none⟩ = some (.string xp) := hc 0 _ rfl
          have c1 : wr.cell? ⟨bk, o + k * 12 + 1, none⟩ = some (.int .i64 xk) := hc 1 _ rfl
          have c2 : wr.cell? ⟨bk, o + k * 12 + 2, none⟩ = some (.int .i64 xm) := hc 2 _ rfl
          have c3 : wr.cell? ⟨bk, o + k * 12 + 3, none⟩ = some (.int .i64 xt) := hc 3 _ rfl
          have c4 : wr.cell? ⟨bk, o + k * 12 + 4, none⟩ = some (.string xb) := hc 4 _ rfl
          have c5 : wr.cell? ⟨bk, o + k * 12 + 5, none⟩ = some (.string ⟨#[]⟩) := hc 5 _ rfl
          have c6 : wr.cell? ⟨bk, o + k * 12 + 6, none⟩ = some (.int .i64 0) := hc 6 _ rfl
          have c7 : wr.cell? ⟨bk, o + k * 12 + 7, none⟩ = some (.int .i64 0) := hc 7 _ rfl
          have c8 : wr.cell? ⟨bk, o + k * 12 + 8, none⟩ = some (.int .i64 0) := hc 8 _ rfl
          have c9 : wr.cell? ⟨bk, o + k * 12 + 9, none⟩ = some (.string ⟨#[]⟩) := hc 9 _ rfl
          have c10 : wr.cell? ⟨bk, o + k * 12 + 10, none⟩ = some (.bool true) := hc 10 _ rfl
          have c11 : wr.cell? ⟨bk, o + k * 12 + 11, none⟩ = some (.bool false) := hc 11 _ rfl
          clear hc
          obtain ⟨s2, W6, hr6, ho6, hg6⟩ := more_ae w4.heap.size u8 ((S.take k).filterMap tD) (⟨xp, true, im0⟩ : Em) ((wr.alloc (.cells #[.string xp, .int .i64 xk, .int .i64 xm, .int .i64 xt, .string xb, .string ⟨#[]⟩, .int .i64 0, .int .i64 0, .int .i64 0, .string ⟨#[]⟩, .bool true, .bool false] 63)).alloc (.cells #[.string xp, .bool true, .string ⟨#[]⟩, .int .i64 0, .int .i64 0, .int .i64 0, .string ⟨#[]⟩] 30)) ((HO.out.alloc _).alloc _) (wr.heap.size + 1) (by rw [show wr.heap.size + 1 = (wr.alloc (.cells #[.string xp, .int .i64 xk, .int .i64 xm, .int .i64 xt, .string xb, .string ⟨#[]⟩, .int .i64 0, .int .i64 0, .int .i64 0, .string ⟨#[]⟩, .bool true, .bool false] 63)).heap.size from by simp]; exact heap_alloc_new _ _) (by have h1 := List.length_filterMap_le tD (S.take k); rw [List.length_take] at h1; have := HS3.out; have := HN.out; omega) (by have := HB.out.size; simp; omega)
          have HO6 : Hid (W6.ownsRow w4.heap.size 30 7 s2 ((S.take (k + 1)).filterMap tD).length (rowR emC ((S.take (k + 1)).filterMap tD))) := by
            rw [told_step ht, show tD (some ⟨xp, xk, xm, xt, xb⟩, none) = some (⟨xp, true, im0⟩ : Em) from by rfl, Option.toList_some]; exact ho6
          have HB6 : Hid (Below w4.heap.size w4 W6) := (((HB.out.alloc HB.out.size _).alloc (by have := HB.out.size; simp; omega) _)).grown hg6 (by have := HB.out.size; simp; omega) fun g hg => (HO.out.lt g hg).1
          clear ho6 hg6 ht
          go_wp2_with (at_builtin; refine wpL_append_run rfl (.tmp 32) (.tmp 37) 23 23 rfl rfl _ _ s2 W6 rfl rfl hr6 ?_)
          clear hr6 c0 c1 c2 c3 c4 c5 c6 c7 c8 c9 c10 c11
          go_roundw
          case measure => simp only [intOf]; omega
          case rel => exact ⟨k + 1, by omega, by go_num, HO6, HB6⟩
        | some y =>
          have heq := fun W => it_cmp W x y
          obtain ⟨xp, xk, xm, xt, xb⟩ := x
          obtain ⟨yp, yk, ym, yt, yb⟩ := y
          dsimp only at heq
          obtain ⟨SM, hSM⟩ : ∃ SM, SM = imSame ⟨xp, xk, xm, xt, xb⟩ ⟨yp, yk, ym, yt, yb⟩ := ⟨_, rfl⟩
          have HSM : Hid (SM = imSame ⟨xp, xk, xm, xt, xb⟩ ⟨yp, yk, ym, yt, yb⟩) := hSM
          rw [← hSM] at heq
          clear hSM
          cases SM with
          | true =>
            have c0 : wr.cell? ⟨bk, o + k * 12, none⟩ = some (.string xp) := hc 0 _ rfl
            have c1 : wr.cell? ⟨bk, o + k * 12 + 1, none⟩ = some (.int .i64 xk) := hc 1 _ rfl
            have c2 : wr.cell? ⟨bk, o + k * 12 + 2, none⟩ = some (.int .i64 xm) := hc 2 _ rfl
            have c3 : wr.cell? ⟨bk, o + k * 12 + 3, none⟩ = some (.int .i64 xt) := hc 3 _ rfl
            have c4 : wr.cell? ⟨bk, o + k * 12 + 4, none⟩ = some (.string xb) := hc 4 _ rfl
            have c5 : wr.cell? ⟨bk, o + k * 12 + 5, none⟩ = some (.string yp) := hc 5 _ rfl
            have c6 : wr.cell? ⟨bk, o + k * 12 + 6, none⟩ = some (.int .i64 yk) := hc 6 _ rfl
            have c7 : wr.cell? ⟨bk, o + k * 12 + 7, none⟩ = some (.int .i64 ym) := hc 7 _ rfl
            have c8 : wr.cell? ⟨bk, o + k * 12 + 8, none⟩ = some (.int .i64 yt) := hc 8 _ rfl
            have c9 : wr.cell? ⟨bk, o + k * 12 + 9, none⟩ = some (.string yb) := hc 9 _ rfl
            have c10 : wr.cell? ⟨bk, o + k * 12 + 10, none⟩ = some (.bool true) := hc 10 _ rfl
            have c11 : wr.cell? ⟨bk, o + k * 12 + 11, none⟩ = some (.bool true) := hc 11 _ rfl
            clear hc
            have HO6 : Hid (wr.ownsRow w4.heap.size 30 7 u8 ((S.take (k + 1)).filterMap tD).length (rowR emC ((S.take (k + 1)).filterMap tD))) := by
              rw [told_step ht, show tD (some ⟨xp, xk, xm, xt, xb⟩, some ⟨yp, yk, ym, yt, yb⟩) = none from by rw [tD_both, ← HSM.out]; rfl, Option.toList_none, List.append_nil]; exact HO.out
            have HB6 : Hid (Below w4.heap.size w4 (wr.alloc (.cells #[.string xp, .int .i64 xk, .int .i64 xm, .int .i64 xt, .string xb, .string yp, .int .i64 yk, .int .i64 ym, .int .i64 yt, .string yb, .bool true, .bool true] 63))) := HB.out.alloc HB.out.size _
            have HO7 : Hid ((wr.alloc (.cells #[.string xp, .int .i64 xk, .int .i64 xm, .int .i64 xt, .string xb, .string yp, .int .i64 yk, .int .i64 ym, .int .i64 yt, .string yb, .bool true, .bool true] 63)).ownsRow w4.heap.size 30 7 u8 ((S.take (k + 1)).filterMap tD).length (rowR emC ((S.take (k + 1)).filterMap tD))) := HO6.out.alloc _
            clear ht HO6
            go_wp2_with fail
            clear c0 c1 c2 c3 c4 c5 c6 c7 c8 c9 c10 c11
            go_roundw
            case measure => simp only [intOf]; omega
            case rel => exact ⟨k + 1, by omega, by go_num, HO7, HB6⟩
          | false =>
            have c0 : wr.cell? ⟨bk, o + k * 12, none⟩ = some (.string xp) := hc 0 _ rfl
            have c1 : wr.cell? ⟨bk, o + k * 12 + 1, none⟩ = some (.int .i64 xk) := hc 1 _ rfl
            have c2 : wr.cell? ⟨bk, o + k * 12 + 2, none⟩ = some (.int .i64 xm) := hc 2 _ rfl
            have c3 : wr.cell? ⟨bk, o + k * 12 + 3, none⟩ = some (.int .i64 xt) := hc 3 _ rfl
            have c4 : wr.cell? ⟨bk, o + k * 12 + 4, none⟩ = some (.string xb) := hc 4 _ rfl
            have c5 : wr.cell? ⟨bk, o + k * 12 + 5, none⟩ = some (.string yp) := hc 5 _ rfl
            have c6 : wr.cell? ⟨bk, o + k * 12 + 6, none⟩ = some (.int .i64 yk) := hc 6 _ rfl
            have c7 : wr.cell? ⟨bk, o + k * 12 + 7, none⟩ = some (.int .i64 ym) := hc 7 _ rfl
            have c8 : wr.cell? ⟨bk, o + k * 12 + 8, none⟩ = some (.int .i64 yt) := hc 8 _ rfl
            have c9 : wr.cell? ⟨bk, o + k * 12 + 9, none⟩ = some (.string yb) := hc 9 _ rfl
            have c10 : wr.cell? ⟨bk, o + k * 12 + 10, none⟩ = some (.bool true) := hc 10 _ rfl
            have c11 : wr.cell? ⟨bk, o + k * 12 + 11, none⟩ = some (.bool true) := hc 11 _ rfl
            clear hc
            obtain ⟨s2, W6, hr6, ho6, hg6⟩ := more_ae w4.heap.size u8 ((S.take k).filterMap tD) (⟨yp, false, ⟨yp, yk, ym, yt, yb⟩⟩ : Em) ((wr.alloc (.cells #[.string xp, .int .i64 xk, .int .i64 xm, .int .i64 xt, .string xb, .string yp, .int .i64 yk, .int .i64 ym, .int .i64 yt, .string yb, .bool true, .bool true] 63)).alloc (.cells #[.string yp, .bool false, .string yp, .int .i64 yk, .int .i64 ym, .int .i64 yt, .string yb] 30)) ((HO.out.alloc _).alloc _) (wr.heap.size + 1) (by rw [show wr.heap.size + 1 = (wr.alloc (.cells #[.string xp, .int .i64 xk, .int .i64 xm, .int .i64 xt, .string xb, .string yp, .int .i64 yk, .int .i64 ym, .int .i64 yt, .string yb, .bool true, .bool true] 63)).heap.size from by simp]; exact heap_alloc_new _ _) (by have h1 := List.length_filterMap_le tD (S.take k); rw [List.length_take] at h1; have := HS3.out; have := HN.out; omega) (by have := HB.out.size; simp; omega)
            have HO6 : Hid (W6.ownsRow w4.heap.size 30 7 s2 ((S.take (k + 1)).filterMap tD).length (rowR emC ((S.take (k + 1)).filterMap tD))) := by
              rw [told_step ht, show tD (some ⟨xp, xk, xm, xt, xb⟩, some ⟨yp, yk, ym, yt, yb⟩) = some (⟨yp, false, ⟨yp, yk, ym, yt, yb⟩⟩ : Em) from by rw [tD_both, ← HSM.out]; rfl, Option.toList_some]; exact ho6
            have HB6 : Hid (Below w4.heap.size w4 W6) := (((HB.out.alloc HB.out.size _).alloc (by have := HB.out.size; simp; omega) _)).grown hg6 (by have := HB.out.size; simp; omega) fun g hg => (HO.out.lt g hg).1
            clear ho6 hg6 ht
            go_wp2_with (at_builtin; refine wpL_append_run rfl (.tmp 49) (.tmp 56) 23 23 rfl rfl _ _ s2 W6 rfl rfl hr6 ?_)
            clear hr6 c0 c1 c2 c3 c4 c5 c6 c7 c8 c9 c10 c11
            go_roundw
            case measure => simp only [intOf]; omega
            case rel => exact ⟨k + 1, by omega, by go_num, HO6, HB6⟩
    · obtain rfl : k = N := by omega
      have HO1 : Hid (wr.ownsRow w4.heap.size 30 7 u8 (S.filterMap tD).length (rowR emC (S.filterMap tD))) := by
        have h := HO.out
        rw [List.take_of_length_le (by have := HN.out; omega)] at h
        exact h
      have HBw : Hid (Below w.heap.size w wr) := HB4.out.trans (HB.out.mono HB4.out.size)
      have HLn : Hid ((S.filterMap tD).length ≤ 1000) := Nat.le_trans (List.length_filterMap_le _ _) HS3.out
      clear HO HB
      have HK : Hid (∀ x ∈ S.filterMap tD, x.Ok) := fun q hq => by
        obtain ⟨⟨zx, zy⟩, hz, e⟩ := List.mem_filterMap.1 hq
        have hzz := side_in a b _ (by rw [HS.out] at hz; exact hz)
        cases zy with
        | none =>
          cases zx with
          | none => cases e
          | some x => cases e; exact ⟨(HOa.out x (hzz.2.1 x rfl)).path, im0_ok⟩
        | some y =>
          have hy := HOb.out y (hzz.2.2 y rfl)
          cases zx with
          | none => cases e; exact ⟨hy.path, hy⟩
          | some x =>
            unfold tD at e
            dsimp only at e
            split at e
            · cases e
            · cases e; exact ⟨hy.path, hy⟩
      have HRe : Hid (RP = (edl (S.filterMap tD), 0)) := by
        have h := diff_told HEA0.out HEB0.out
        unfold Dl.diff at h
        show _ = _
        rw [HP.out, HS.out]
        exact h
      have hown := ownEdits_any u8 (S.filterMap tD) wr _ HO1.out HK.out (by have := HLn.out; omega)
      clear HP
      go_wp2_with fail
      refine hown.mono ?_
      rintro e w5 ⟨rfl, b5⟩
      have HB5 : Hid (Below w.heap.size w w5) := HBw.out.trans (b5.mono HBw.out.size)
      have HO5 : Hid (w5.ownsRow w.heap.size 30 7 u8 (S.filterMap tD).length (rowR emC (S.filterMap tD))) := own_lower (own_below HO1.out b5) HB4.out.size
      clear hown b5
      go_wp2_with fail
      go_ret2
      exact ⟨_, S.filterMap tD, by rw [HRe.out]; rfl, HO5.out, by rw [HRe.out], HK.out, HB5.out⟩
end Go.Proofs.YthpcbbkpjggjbaaGreatDoor
namespace Go.Proofs.YthpcbbkpjggjbaaGreatDoor
open Go.RowKit
set_option maxRecDepth 4000
def lenIE : Value → Nat
  | .slice _ n _ => n
  | _ => 0
abbrev sdIE : List Im → List Em → List (Option Im × Option Em) := Dl.side (fun x : Im => x.it.path) (fun y : Em => y.ed.path)
structure SdIE (w : World) (a : List Im) (b : List Em) (p q s : Value) (W : World) (la : List Im) (lb : List Em) (done : List (Option Im × Option Em)) : Prop where
  ra : Ims w p la
  rb : Eds w q lb
  oa : ∀ x ∈ la, x.Ok
  ob : ∀ x ∈ lb, x.Ok
  row : W.ownsRow w.heap.size 70 14 s done.length (rowR ieC done)
  bel : Below w.heap.size w W
  eq : sdIE a b = done ++ sdIE la lb
  len : done.length + (la.length + lb.length) ≤ a.length + b.length
theorem info_ie : (Tryz.prog.info? 70).map (fun i => (i.zero, i.size, i.bytes)) = some (some (.agg #[.string ⟨#[]⟩, .int .i64 0, .int .i64 0, .int .i64 0, .string ⟨#[]⟩, .string ⟨#[]⟩, .bool false, .string ⟨#[]⟩, .int .i64 0, .int .i64 0, .int .i64 0, .string ⟨#[]⟩, .bool false, .bool false]), 14, 144) := by kernel_rfl
theorem ieC_len (z : Option Im × Option Em) : (ieC z).length = 14 := by rfl
theorem ieC_one (z : Option Im × Option Em) : ∀ u ∈ ieC z, u.oneCell' = true := prC_one imC_one emC_one z
theorem setA_ie {W : World} {b : Nat} {x0 : Im} {y0 : Em} {f g : Bool} {xp xb : ByteArray} {xk xm xt : Int} (h : W.heap[b]? = some (.cells (qC imC emC x0 y0 f g).toArray 70 (0, 0))) : (W.setCells b 0 (imC ⟨xp, xk, xm, xt, xb⟩)).heap[b]? = some (.cells (qC imC emC ⟨xp, xk, xm, xt, xb⟩ y0 f g).toArray 70 (0, 0)) := by
  exact sets_blk (post := emC y0 ++ [.bool f, .bool g]) (imC ⟨xp, xk, xm, xt, xb⟩) [] (imC x0) W h rfl
theorem setB_ie {W : World} {b : Nat} {x0 : Im} {y0 : Em} {f g : Bool} {yp yi yb : ByteArray} {yg : Bool} {yk ym yt : Int} (h : W.heap[b]? = some (.cells (qC imC emC x0 y0 f g).toArray 70 (0, 0))) : (W.setCells b 5 (emC ⟨yp, yg, ⟨yi, yk, ym, yt, yb⟩⟩)).heap[b]? = some (.cells (qC imC emC x0 ⟨yp, yg, ⟨yi, yk, ym, yt, yb⟩⟩ f g).toArray 70 (0, 0)) := by
  exact sets_blk (post := [.bool f, .bool g]) (emC ⟨yp, yg, ⟨yi, yk, ym, yt, yb⟩⟩) (imC x0) (emC y0) W h rfl
theorem flgA_ie {W : World} {b : Nat} {x0 : Im} {y0 : Em} {f g : Bool} (h : W.heap[b]? = some (.cells (qC imC emC x0 y0 f g).toArray 70 (0, 0))) : (W.setCell ⟨b, 12, none⟩ (.bool true)).heap[b]? = some (.cells (qC imC emC x0 y0 true g).toArray 70 (0, 0)) := set_blk h 12 (.bool true)
theorem flgB_ie {W : World} {b : Nat} {x0 : Im} {y0 : Em} {f g : Bool} (h : W.heap[b]? = some (.cells (qC imC emC x0 y0 f g).toArray 70 (0, 0))) : (W.setCell ⟨b, 13, none⟩ (.bool true)).heap[b]? = some (.cells (qC imC emC x0 y0 f true).toArray 70 (0, 0)) := set_blk h 13 (.bool true)
theorem more_ie (base : Nat) (v : Value) (l : List (Option Im × Option Em)) (t : Option Im × Option Em) (w : World) (h : w.ownsRow base 70 14 v l.length (rowR ieC l)) (g : Nat) (hg : w.heap[g]? = some (.cells (ieC t).toArray 70 (0, 0)))
    (hl : l.length < 100000) (hbase : base ≤ w.heap.size) :
    ∃ v' w', (Builtin.append_ #[66, 66] 66 #[v, .slice (some ⟨g, 0, none⟩) 1 1]).run Tryz.prog w = .ok v' w' ∧ w'.ownsRow base 70 14 v' (l ++ [t]).length (rowR ieC (l ++ [t])) ∧ w.grownBy w' v.ownBlock :=
  row_more Tryz.underlying66 info_ie rfl (by decide) ieC_len ieC_one base v l t w h g hg (by omega) (by omega) hbase
set_option maxHeartbeats 16000000 in
theorem sideIE_any (va vb : Value) (a : List Im) (b : List Em) (w : World) (ha : Ims w va a) (hb : Eds w vb b) (hla : a.length + b.length ≤ 1000) (oa : ∀ x ∈ a, x.Ok) (ob : ∀ x ∈ b, x.Ok) (hT : Tabs w) :
    Calls Tryz.prog 27 #[va, vb, .func (.func 28) #[] #[]] w fun e w' => ∃ v, e = .returned v ∧ w'.ownsRow w.heap.size 70 14 v (sdIE a b).length (rowR ieC (sdIE a b)) ∧ Below w.heap.size w w' := by
  obtain ⟨sa, sc, rfl, _, _⟩ := ha.slice
  obtain ⟨sb, tc, rfl, _, _⟩ := hb.slice
  have HT : Hid (Tabs w) := hT
  have HL0 : Hid (a.length + b.length ≤ 1000) := hla
  have H0 : Hid (SdIE w a b (.slice sa a.length sc) (.slice sb b.length tc) (.slice none 0 0) w a b []) := ⟨ha, hb, oa, ob, World.ownsRow_nil _ _ _ _, Below.refl _ _, rfl, by simp⟩
  generalize hna : a.length = na at *
  generalize hnb : b.length = nb at *
  clear ha hb hla oa ob hT
  go_enter Tryz.func27, Tryz.ntmps27
  go_upto_block 0 with fail
  go_cut [0, 1, 7] from 8 to 51 (fun p q s wx => ∃ la lb done, Hid (SdIE w a b p q s wx la lb done) ∧ Hid (la = [] ∨ lb = []))
  case first =>
    go_wp2_with fail
    go_loopw [0, 1, 7] (fun p q s wr => ∃ la lb done, Hid (SdIE w a b p q s wr la lb done)) (fun p q _ _ => lenIE p + lenIE q)
    case atStart => exact ⟨a, b, [], H0⟩
    case round =>
      clear H0
      obtain ⟨la, lb, done, H⟩ := hrel
      cases la with
      | nil =>
        obtain ⟨pa, pc, rfl, _, _⟩ := H.out.ra.slice
        go_wp2_with fail
        go_meet
        exact ⟨[], lb, done, H, .inl rfl⟩
      | cons x la =>
        cases lb with
        | nil =>
          obtain ⟨pa, pc, rfl, _, _⟩ := H.out.ra.slice
          obtain ⟨qa, qc, rfl, _, _⟩ := H.out.rb.slice
          go_wp2_with fail
          go_meet
          exact ⟨x :: la, [], done, H, .inr rfl⟩
        | cons y lb =>
          obtain ⟨pa, pc, rfl, hpc1, hpc2⟩ := H.out.ra.slice
          obtain ⟨qa, qc, rfl, hqc1, hqc2⟩ := H.out.rb.slice
          obtain ⟨bk, o, rfl, hbk, hxa⟩ := H.out.ra.get 0 x rfl
          obtain ⟨bkk, oo, rfl, hbkk, hxb⟩ := H.out.rb.get 0 y rfl
          obtain ⟨va, hva⟩ : ∃ va, va = Value.slice (if pc = 1 then some ⟨bk, o, none⟩ else some ⟨bk, o + 5, none⟩) la.length (pc - 1) := ⟨_, rfl⟩
          obtain ⟨vb, hvb⟩ : ∃ vb, vb = Value.slice (if qc = 1 then some ⟨bkk, oo, none⟩ else some ⟨bkk, oo + 7, none⟩) lb.length (qc - 1) := ⟨_, rfl⟩
          have HRa : Hid (Ims w va la) := by rw [hva]; exact H.out.ra.rest
          have HRb : Hid (Eds w vb lb) := by rw [hvb]; exact H.out.rb.rest
          have HXa : Hid (∀ W, Below wr.heap.size wr W → W.rangeAt bk o (imC x)) := fun W hW r u hu => by
            have h := hxa r u hu
            rw [Nat.zero_mul, Nat.add_zero] at h
            exact ((H.out.bel.trans (hW.mono H.out.bel.size)).cell (p := ⟨bk, _, none⟩) hbk).trans h
          have HXb : Hid (∀ W, Below wr.heap.size wr W → W.rangeAt bkk oo (emC y)) := fun W hW r u hu => by
            have h := hxb r u hu
            rw [Nat.zero_mul, Nat.add_zero] at h
            exact ((H.out.bel.trans (hW.mono H.out.bel.size)).cell (p := ⟨bkk, _, none⟩) hbkk).trans h
          have HCl : Hid (∀ W, Below wr.heap.size wr W → Calls Tryz.prog 28 #[imV x, emV y] W fun e w' => e = .returned (.int .i64 (Dl.cmp x.it.path y.ed.path)) ∧ Below W.heap.size W w') := fun W hW => cmpIE_any x y W (H.out.oa x List.mem_cons_self) (H.out.ob y List.mem_cons_self) (HT.out.below (H.out.bel.trans (hW.mono H.out.bel.size)))
          obtain ⟨n1, hn1⟩ : ∃ n, n = la.length := ⟨_, rfl⟩
          obtain ⟨n2, hn2⟩ : ∃ n, n = lb.length := ⟨_, rfl⟩
          have HN1 : Hid (n1 = la.length) := hn1
          have HN2 : Hid (n2 = lb.length) := hn2
          rw [List.length_cons, ← hn1] at hpc1 H
          rw [List.length_cons, ← hn2] at hqc1 H
          rw [← hn1] at hva
          rw [← hn2] at hvb
          rw [List.length_cons, ← hn1, List.length_cons, ← hn2]
          have HLa : Hid (lenIE va = n1) := by show _ = _; rw [hva]; rfl
          have HLb : Hid (lenIE vb = n2) := by show _ = _; rw [hvb]; rfl
          have Hva : Hid (va = Value.slice (if pc = 1 then some ⟨bk, o, none⟩ else some ⟨bk, o + 5, none⟩) n1 (pc - 1)) := hva
          have Hvb : Hid (vb = Value.slice (if qc = 1 then some ⟨bkk, oo, none⟩ else some ⟨bkk, oo + 7, none⟩) n2 (qc - 1)) := hvb
          obtain ⟨C, hC⟩ : ∃ C, C = Dl.cmp x.it.path y.ed.path := ⟨_, rfl⟩
          rw [← hC] at HCl
          have HC3 : Hid ((C = 0 ∧ x.it.path = y.ed.path) ∨ (C = -1 ∧ x.it.path ≠ y.ed.path ∧ (Nn.less x.it.path y.ed.path).1 = true) ∨ (C = 1 ∧ x.it.path ≠ y.ed.path ∧ (Nn.less x.it.path y.ed.path).1 = false)) := by
            show _ ∨ _
            rw [hC]
            unfold Dl.cmp
            by_cases e : x.it.path = y.ed.path
            · rw [if_pos e]; exact .inl ⟨rfl, e⟩
            · rw [if_neg e]
              cases k : (Nn.less x.it.path y.ed.path).1 with
              | true => exact .inr (.inl ⟨rfl, e, rfl⟩)
              | false => exact .inr (.inr ⟨rfl, e, rfl⟩)
          clear hva hvb hn1 hn2 hC hxa hxb hbk hbkk
          obtain ⟨xp, xk, xm, xt, xb⟩ := x
          obtain ⟨yp, yg, ⟨yi, yk, ym, yt, yb⟩⟩ := y
          have hg1 : ((n1 : Int) + 1 > 0) := by omega
          have hg2 : ((n2 : Int) + 1 > 0) := by omega
          obtain ⟨W1, hW1⟩ : ∃ W1, W1 = wr.alloc (.cells #[.string ⟨#[]⟩, .int .i64 0, .int .i64 0, .int .i64 0, .string ⟨#[]⟩, .string ⟨#[]⟩, .bool false, .string ⟨#[]⟩, .int .i64 0, .int .i64 0, .int .i64 0, .string ⟨#[]⟩, .bool false, .bool false] 70) := ⟨_, rfl⟩
          have HBr1 : Hid (Below wr.heap.size wr W1) := by rw [hW1]; exact (Below.refl _ wr).alloc (Nat.le_refl _) _
          have HM1 : Hid (W1.heap[wr.heap.size]? = some (.cells (ieC (none, none)).toArray 70 (0, 0))) := by rw [hW1]; exact heap_alloc_new wr _
          go_upto_region 4 with fail
          rw [← hW1]
          clear hW1
          refine wp_region_rel (G := Gw) (W0 := W1) Gw.refl Gw.trans (by kernel_rfl) (by kernel_rfl) (by kernel_rfl) (Below.refl _ W1).drew ?_
          refine .inl ⟨.func (.func 28) #[] #[], fun v W hW hd => step_run (by first | rfl | simp [Region.wanted, yielded]) _ W (by clear hd; go_simp) rfl (Gw.refl _), ?_⟩
          simp only [Act.put, List.setIfInBounds_toArray, List.set_cons_zero, List.set_cons_succ]
          refine .inl ⟨.slice (some ⟨bk, o, none⟩) (n1 + 1) pc, fun v W hW hd => step_run (by first | rfl | simp [Region.wanted, yielded]) _ W (by clear hd; go_simp) rfl (Gw.refl _), ?_⟩
          simp only [Act.put, List.setIfInBounds_toArray, List.set_cons_zero, List.set_cons_succ]
          refine .inl ⟨.pointer (some ⟨bk, o, none⟩), fun v W hW hd => step_run (by first | rfl | simp [Region.wanted, yielded]) _ W (by clear hd; go_simp) rfl (Gw.refl _), ?_⟩
          simp only [Act.put, List.setIfInBounds_toArray, List.set_cons_zero, List.set_cons_succ]
          refine .inl ⟨.agg #[.string xp, .int .i64 xk, .int .i64 xm, .int .i64 xt, .string xb], fun v W hW hd => step_run rfl _ W (exec_ld 27 (.tmp 24) rfl bk o rfl (imC ⟨xp, xk, xm, xt, xb⟩) _ (HXa.out W (HBr1.out.trans (Below.mono hW HBr1.out.size))) Tryz.underlying27 rfl (by kernel_rfl)) rfl (Gw.refl _), ?_⟩
          simp only [Act.put, List.setIfInBounds_toArray, List.set_cons_zero, List.set_cons_succ]
          refine .inl ⟨.slice (some ⟨bkk, oo, none⟩) (n2 + 1) qc, fun v W hW hd => step_run (by first | rfl | simp [Region.wanted, yielded]) _ W (by clear hd; go_simp) rfl (Gw.refl _), ?_⟩
          simp only [Act.put, List.setIfInBounds_toArray, List.set_cons_zero, List.set_cons_succ]
          refine .inl ⟨.pointer (some ⟨bkk, oo, none⟩), fun v W hW hd => step_run (by first | rfl | simp [Region.wanted, yielded]) _ W (by clear hd; go_simp) rfl (Gw.refl _), ?_⟩
          simp only [Act.put, List.setIfInBounds_toArray, List.set_cons_zero, List.set_cons_succ]
          refine .inl ⟨.agg #[.string yp, .bool yg, .string yi, .int .i64 yk, .int .i64 ym, .int .i64 yt, .string yb], fun v W hW hd => step_run rfl _ W (exec_ld 30 (.tmp 27) rfl bkk oo rfl (emC ⟨yp, yg, ⟨yi, yk, ym, yt, yb⟩⟩) _ (HXb.out W (HBr1.out.trans (Below.mono hW HBr1.out.size))) Tryz.underlying30 rfl (by kernel_rfl)) rfl (Gw.refl _), ?_⟩
          simp only [Act.put, List.setIfInBounds_toArray, List.set_cons_zero, List.set_cons_succ]
          refine .inl ⟨.int .i64 C, fun v W hW hd => step_call (by first | rfl | simp [Region.wanted, yielded]) 28 #[.agg #[.string xp, .int .i64 xk, .int .i64 xm, .int .i64 xt, .string xb], .agg #[.string yp, .bool yg, .string yi, .int .i64 yk, .int .i64 ym, .int .i64 yt, .string yb]] (by clear hd; go_simp) ((HCl.out W (HBr1.out.trans (Below.mono hW HBr1.out.size))).mono fun e w' h => ⟨_, h.1, rfl, h.2⟩), ?_⟩
          simp only [Act.put, List.setIfInBounds_toArray, List.set_cons_zero, List.set_cons_succ]
          refine .inl ⟨.int .i64 C, fun v W hW hd => step_run (by first | rfl | simp [Region.wanted, yielded]) _ W (by clear hd; go_simp) rfl (Gw.refl _), ?_⟩
          simp only [Act.put, List.setIfInBounds_toArray, List.set_cons_zero, List.set_cons_succ]
          intro v W2 hW2 hV
          have HB2 : Hid (Below wr.heap.size wr W2) := HBr1.out.trans (Below.mono hW2 HBr1.out.size)
          have HM2 : Hid (W2.heap[wr.heap.size]? = some (.cells (ieC (none, none)).toArray 70 (0, 0))) := (Below.block hW2 _ (Array.getElem?_eq_some_iff.1 HM1.out).1).trans HM1.out
          clear hV hW2 HM1 HBr1 HCl
          rcases HC3.out with ⟨rfl, he⟩ | ⟨rfl, hne, hls⟩ | ⟨rfl, hne, hls⟩
          · have HE : Hid ((⟨xp, xk, xm, xt, xb⟩ : Im).it.path = (⟨yp, yg, ⟨yi, yk, ym, yt, yb⟩⟩ : Em).ed.path) := he
            clear he HC3
            go_upto_region 6 with fail
            have HGa : Hid (∀ W, GA imC emC 70 wr.heap.size ⟨xp, xk, xm, xt, xb⟩ W2 W → W.rangeAt bk o (imC ⟨xp, xk, xm, xt, xb⟩)) := fun W hW => HXa.out W (HB2.out.trans (hW.kept.below HB2.out.size fun q hq e => by omega))
            refine wp_region_rel (G := GA imC emC 70 wr.heap.size ⟨xp, xk, xm, xt, xb⟩) (W0 := W2) GA.refl GA.trans (by kernel_rfl) (by kernel_rfl) (by kernel_rfl) (GA.drew W2) ?_
            refine .inl ⟨.slice (some ⟨bk, o, none⟩) (n1 + 1) pc, fun v W hW hd => step_run (by first | rfl | simp [Region.wanted, yielded]) _ W (by clear hd; go_simp) rfl (GA.refl _), ?_⟩
            simp only [Act.put, List.setIfInBounds_toArray, List.set_cons_zero, List.set_cons_succ]
            refine .inl ⟨.pointer (some ⟨bk, o, none⟩), fun v W hW hd => step_run (by first | rfl | simp [Region.wanted, yielded]) _ W (by clear hd; go_simp) rfl (GA.refl _), ?_⟩
            simp only [Act.put, List.setIfInBounds_toArray, List.set_cons_zero, List.set_cons_succ]
            refine .inl ⟨.agg #[.string xp, .int .i64 xk, .int .i64 xm, .int .i64 xt, .string xb], fun v W hW hd => step_run rfl _ W (exec_ld 27 (.tmp 33) rfl bk o rfl (imC ⟨xp, xk, xm, xt, xb⟩) _ (HGa.out W hW) Tryz.underlying27 rfl (by kernel_rfl)) rfl (GA.refl _), ?_⟩
            simp only [Act.put, List.setIfInBounds_toArray, List.set_cons_zero, List.set_cons_succ]
            refine .inl ⟨.slice (some ⟨bk, o, none⟩) (n1 + 1) pc, fun v W hW hd => step_run (by first | rfl | simp [Region.wanted, yielded]) _ W (by clear hd; go_simp) rfl (GA.refl _), ?_⟩
            simp only [Act.put, List.setIfInBounds_toArray, List.set_cons_zero, List.set_cons_succ]
            refine .inl ⟨va, fun v W hW hd => step_run (by first | rfl | simp [Region.wanted, yielded]) _ W (by clear hd; have hv := Hva.out; have hq : ¬ ((n1 : Int) + 1 < 1) := (by omega); go_simp) rfl (GA.refl _), ?_⟩
            simp only [Act.put, List.setIfInBounds_toArray, List.set_cons_zero, List.set_cons_succ]
            refine .inl ⟨.pointer (some ⟨wr.heap.size, 0, none⟩), fun v W hW hd => step_run (by first | rfl | simp [Region.wanted, yielded]) _ W (by clear hd; go_simp) rfl (GA.refl _), ?_⟩
            simp only [Act.put, List.setIfInBounds_toArray, List.set_cons_zero, List.set_cons_succ]
            refine .inr ⟨fun _ W => ∃ f, W.heap[wr.heap.size]? = some (.cells (qC imC emC ⟨xp, xk, xm, xt, xb⟩ (em0) f false).toArray 70 (0, 0)), fun u W W' hv hg => ?_, fun v W hW hd => ?_, ?_⟩
            · obtain ⟨f, hv⟩ := hv
              obtain ⟨x1, f1, e, _, h⟩ := hg.blk _ _ _ _ hv
              exact ⟨f1, by rw [show x1 = _ from e.elim id id] at h; exact h⟩
            · clear hd
              obtain ⟨x1, f1, _, _, hq⟩ := hW.blk im0 (em0) false false HM2.out
              exact step_still rfl (W.setCells wr.heap.size 0 (imC ⟨xp, xk, xm, xt, xb⟩)) (exec_st 27 (.tmp 37) (.tmp 34) rfl wr.heap.size 0 #[.string xp, .int .i64 xk, .int .i64 xm, .int .i64 xt, .string xb] rfl rfl (blk_there hq (Nat.le_of_ble_eq_true rfl)) (by kernel_rfl) (all_oneCell_toArray (imC_one ⟨xp, xk, xm, xt, xb⟩))) ⟨f1, setA_ie hq⟩ ⟨(Kept.refl _ _).sets (fun e => e rfl) _ _, fun x0 y0 f g h => ⟨_, _, .inr rfl, id, setA_ie h⟩⟩
            simp only [Act.put]
            refine .inl ⟨.pointer (some ⟨wr.heap.size, 12, none⟩), fun v W hW hd => step_run (by first | rfl | simp [Region.wanted, yielded]) _ W (by clear hd; go_simp) rfl (GA.refl _), ?_⟩
            simp only [Act.put, List.setIfInBounds_toArray, List.set_cons_zero, List.set_cons_succ]
            refine .inr ⟨fun _ W => ∃ x0, W.heap[wr.heap.size]? = some (.cells (qC imC emC x0 (em0) true false).toArray 70 (0, 0)), fun u W W' hv hg => ?_, fun v W hW hd => ?_, ?_⟩
            · obtain ⟨x0, hv⟩ := hv
              obtain ⟨x1, f1, _, e, h⟩ := hg.blk _ _ _ _ hv
              exact ⟨x1, by rw [e rfl] at h; exact h⟩
            · clear hd
              obtain ⟨x1, f1, _, _, hq⟩ := hW.blk im0 (em0) false false HM2.out
              have hth := (blk_there (o := 12) (k := 1) hq (Nat.le_of_ble_eq_true rfl)) 0 (by omega)
              have hf1 := hth.2
              obtain ⟨hcv, hf2⟩ := Option.isSome_iff_exists.1 hth.1
              simp only [Nat.add_zero] at hf1 hf2
              exact step_still rfl (W.setCell ⟨wr.heap.size, 12, none⟩ (.bool true)) (by clear hW hq hth; go_simp) ⟨x1, flgA_ie hq⟩ ⟨(Kept.refl _ _).setCell (a := ⟨wr.heap.size, 12, none⟩) (fun e => e rfl) _, fun x0 y0 f g h => ⟨_, _, .inl rfl, fun _ => rfl, flgA_ie h⟩⟩
            simp only [Act.put]
            refine .inl ⟨va, fun v W hW hd => step_run (by first | rfl | simp [Region.wanted, yielded]) _ W (by clear hd; go_simp) rfl (GA.refl _), ?_⟩
            simp only [Act.put, List.setIfInBounds_toArray, List.set_cons_zero]
            intro v W3 hW3 hV
            have h6 : ∃ f, W3.heap[wr.heap.size]? = some (.cells (qC imC emC ⟨xp, xk, xm, xt, xb⟩ (em0) f false).toArray 70 (0, 0)) := hV 6 (by decide)
            have h8 : ∃ x0, W3.heap[wr.heap.size]? = some (.cells (qC imC emC x0 (em0) true false).toArray 70 (0, 0)) := hV 8 (by decide)
            obtain ⟨f6, h6⟩ := h6
            obtain ⟨x8, h8⟩ := h8
            have HM4 : Hid (W3.heap[wr.heap.size]? = some (.cells (qC imC emC ⟨xp, xk, xm, xt, xb⟩ (em0) true false).toArray 70 (0, 0))) := by
              show _ = _
              rw [flagA (by rfl) h6 h8] at h6
              exact h6
            have HB4 : Hid (Below wr.heap.size wr W3) := HB2.out.trans (hW3.kept.below HB2.out.size fun q hq e => by omega)
            clear hV hW3 h6 h8 HGa HM2
            have HM2 := HM4
            have HB2 := HB4
            clear HM4 HB4
            go_upto_region 8 with fail
            have HGb : Hid (∀ W, GB imC emC 70 wr.heap.size ⟨yp, yg, ⟨yi, yk, ym, yt, yb⟩⟩ W3 W → W.rangeAt bkk oo (emC ⟨yp, yg, ⟨yi, yk, ym, yt, yb⟩⟩)) := fun W hW => HXb.out W (HB2.out.trans (hW.kept.below HB2.out.size fun q hq e => by omega))
            refine wp_region_rel (G := GB imC emC 70 wr.heap.size ⟨yp, yg, ⟨yi, yk, ym, yt, yb⟩⟩) (W0 := W3) GB.refl GB.trans (by kernel_rfl) (by kernel_rfl) (by kernel_rfl) (GB.drew W3) ?_
            refine .inl ⟨.slice (some ⟨bkk, oo, none⟩) (n2 + 1) qc, fun v W hW hd => step_run (by first | rfl | simp [Region.wanted, yielded]) _ W (by clear hd; go_simp) rfl (GB.refl _), ?_⟩
            simp only [Act.put, List.setIfInBounds_toArray, List.set_cons_zero, List.set_cons_succ]
            refine .inl ⟨.pointer (some ⟨bkk, oo, none⟩), fun v W hW hd => step_run (by first | rfl | simp [Region.wanted, yielded]) _ W (by clear hd; go_simp) rfl (GB.refl _), ?_⟩
            simp only [Act.put, List.setIfInBounds_toArray, List.set_cons_zero, List.set_cons_succ]
            refine .inl ⟨.agg #[.string yp, .bool yg, .string yi, .int .i64 yk, .int .i64 ym, .int .i64 yt, .string yb], fun v W hW hd => step_run rfl _ W (exec_ld 30 (.tmp 42) rfl bkk oo rfl (emC ⟨yp, yg, ⟨yi, yk, ym, yt, yb⟩⟩) _ (HGb.out W hW) Tryz.underlying30 rfl (by kernel_rfl)) rfl (GB.refl _), ?_⟩
            simp only [Act.put, List.setIfInBounds_toArray, List.set_cons_zero, List.set_cons_succ]
            refine .inl ⟨.slice (some ⟨bkk, oo, none⟩) (n2 + 1) qc, fun v W hW hd => step_run (by first | rfl | simp [Region.wanted, yielded]) _ W (by clear hd; go_simp) rfl (GB.refl _), ?_⟩
            simp only [Act.put, List.setIfInBounds_toArray, List.set_cons_zero, List.set_cons_succ]
            refine .inl ⟨vb, fun v W hW hd => step_run (by first | rfl | simp [Region.wanted, yielded]) _ W (by clear hd; have hv := Hvb.out; have hq : ¬ ((n2 : Int) + 1 < 1) := (by omega); go_simp) rfl (GB.refl _), ?_⟩
            simp only [Act.put, List.setIfInBounds_toArray, List.set_cons_zero, List.set_cons_succ]
            refine .inl ⟨.pointer (some ⟨wr.heap.size, 5, none⟩), fun v W hW hd => step_run (by first | rfl | simp [Region.wanted, yielded]) _ W (by clear hd; go_simp) rfl (GB.refl _), ?_⟩
            simp only [Act.put, List.setIfInBounds_toArray, List.set_cons_zero, List.set_cons_succ]
            refine .inr ⟨fun _ W => ∃ g, W.heap[wr.heap.size]? = some (.cells (qC imC emC ⟨xp, xk, xm, xt, xb⟩ ⟨yp, yg, ⟨yi, yk, ym, yt, yb⟩⟩ true g).toArray 70 (0, 0)), fun u W W' hv hg => ?_, fun v W hW hd => ?_, ?_⟩
            · obtain ⟨f, hv⟩ := hv
              obtain ⟨x1, f1, e, _, h⟩ := hg.blk _ _ _ _ hv
              exact ⟨f1, by rw [show x1 = _ from e.elim id id] at h; exact h⟩
            · clear hd
              obtain ⟨x1, f1, _, _, hq⟩ := hW.blk ⟨xp, xk, xm, xt, xb⟩ (em0) true false HM2.out
              exact step_still rfl (W.setCells wr.heap.size 5 (emC ⟨yp, yg, ⟨yi, yk, ym, yt, yb⟩⟩)) (exec_st 30 (.tmp 46) (.tmp 43) rfl wr.heap.size 5 #[.string yp, .bool yg, .string yi, .int .i64 yk, .int .i64 ym, .int .i64 yt, .string yb] rfl rfl (blk_there hq (Nat.le_of_ble_eq_true rfl)) (by kernel_rfl) (all_oneCell_toArray (emC_one ⟨yp, yg, ⟨yi, yk, ym, yt, yb⟩⟩))) ⟨f1, setB_ie hq⟩ ⟨(Kept.refl _ _).sets (fun e => e rfl) _ _, fun x0 y0 f g h => ⟨_, _, .inr rfl, id, setB_ie h⟩⟩
            simp only [Act.put]
            refine .inl ⟨.pointer (some ⟨wr.heap.size, 13, none⟩), fun v W hW hd => step_run (by first | rfl | simp [Region.wanted, yielded]) _ W (by clear hd; go_simp) rfl (GB.refl _), ?_⟩
            simp only [Act.put, List.setIfInBounds_toArray, List.set_cons_zero, List.set_cons_succ]
            refine .inr ⟨fun _ W => ∃ y0, W.heap[wr.heap.size]? = some (.cells (qC imC emC ⟨xp, xk, xm, xt, xb⟩ y0 true true).toArray 70 (0, 0)), fun u W W' hv hg => ?_, fun v W hW hd => ?_, ?_⟩
            · obtain ⟨x0, hv⟩ := hv
              obtain ⟨x1, f1, _, e, h⟩ := hg.blk _ _ _ _ hv
              exact ⟨x1, by rw [e rfl] at h; exact h⟩
            · clear hd
              obtain ⟨x1, f1, _, _, hq⟩ := hW.blk ⟨xp, xk, xm, xt, xb⟩ (em0) true false HM2.out
              have hth := (blk_there (o := 13) (k := 1) hq (Nat.le_of_ble_eq_true rfl)) 0 (by omega)
              have hf1 := hth.2
              obtain ⟨hcv, hf2⟩ := Option.isSome_iff_exists.1 hth.1
              simp only [Nat.add_zero] at hf1 hf2
              exact step_still rfl (W.setCell ⟨wr.heap.size, 13, none⟩ (.bool true)) (by clear hW hq hth; go_simp) ⟨x1, flgB_ie hq⟩ ⟨(Kept.refl _ _).setCell (a := ⟨wr.heap.size, 13, none⟩) (fun e => e rfl) _, fun x0 y0 f g h => ⟨_, _, .inl rfl, fun _ => rfl, flgB_ie h⟩⟩
            simp only [Act.put]
            refine .inl ⟨vb, fun v W hW hd => step_run (by first | rfl | simp [Region.wanted, yielded]) _ W (by clear hd; go_simp) rfl (GB.refl _), ?_⟩
            simp only [Act.put, List.setIfInBounds_toArray, List.set_cons_zero, List.set_cons_succ]
            intro v W4 hW3 hV
            have h6 : ∃ g, W4.heap[wr.heap.size]? = some (.cells (qC imC emC ⟨xp, xk, xm, xt, xb⟩ ⟨yp, yg, ⟨yi, yk, ym, yt, yb⟩⟩ true g).toArray 70 (0, 0)) := hV 6 (by decide)
            have h8 : ∃ y0, W4.heap[wr.heap.size]? = some (.cells (qC imC emC ⟨xp, xk, xm, xt, xb⟩ y0 true true).toArray 70 (0, 0)) := hV 8 (by decide)
            obtain ⟨f6, h6⟩ := h6
            obtain ⟨x8, h8⟩ := h8
            have HM4 : Hid (W4.heap[wr.heap.size]? = some (.cells (qC imC emC ⟨xp, xk, xm, xt, xb⟩ ⟨yp, yg, ⟨yi, yk, ym, yt, yb⟩⟩ true true).toArray 70 (0, 0))) := by
              show _ = _
              rw [flagB (by rfl) h6 h8] at h6
              exact h6
            have HB4 : Hid (Below wr.heap.size wr W4) := HB2.out.trans (hW3.kept.below HB2.out.size fun q hq e => by omega)
            clear hV hW3 h6 h8 HGb HM2
            have HZ : Hid (W4.heap.size = W4.heap.size) := rfl
            obtain ⟨s2, W6, hr6, ho6, hg6⟩ := more_ie w.heap.size u7 done ((some ⟨xp, xk, xm, xt, xb⟩, some ⟨yp, yg, ⟨yi, yk, ym, yt, yb⟩⟩) : Option Im × Option Em) (W4.alloc (.cells #[.string xp, .int .i64 xk, .int .i64 xm, .int .i64 xt, .string xb, .string yp, .bool yg, .string yi, .int .i64 yk, .int .i64 ym, .int .i64 yt, .string yb, .bool true, .bool true] 70)) ((own_below H.out.row HB4.out).alloc _) W4.heap.size (heap_alloc_new W4 _) (by have := HL0.out; have := H.out.len; have := HN1.out; have := HN2.out; simp only [List.length_cons] at *; omega) (by have := H.out.bel.size; have := HB4.out.size; simp; omega)
            have HO6 : Hid (W6.ownsRow w.heap.size 70 14 s2 (done ++ [((some ⟨xp, xk, xm, xt, xb⟩, some ⟨yp, yg, ⟨yi, yk, ym, yt, yb⟩⟩) : Option Im × Option Em)]).length (rowR ieC (done ++ [((some ⟨xp, xk, xm, xt, xb⟩, some ⟨yp, yg, ⟨yi, yk, ym, yt, yb⟩⟩) : Option Im × Option Em)]))) := ho6
            have HB6 : Hid (Below w.heap.size w W6) := ((H.out.bel.trans (HB4.out.mono H.out.bel.size)).alloc (Nat.le_trans H.out.bel.size HB4.out.size) _).grown hg6 (by have := H.out.bel.size; have := HB4.out.size; simp; omega) fun g hg => (H.out.row.lt g hg).1
            have hrg := blk_range HM4.out
            clear ho6 hg6 HZ
            go_upto_region 9 with fail
            refine wp_region_lit ?_
            refine wpList_plain rfl fun C hC => ?_
            go_simp
            refine hC _ _ ?_
            clear hC C
            refine wpList_load_mid rfl 70 (.tmp 8) rfl wr.heap.size 0 rfl [.string xp, .int .i64 xk, .int .i64 xm, .int .i64 xt, .string xb, .string yp, .bool yg, .string yi, .int .i64 yk, .int .i64 ym, .int .i64 yt, .string yb, .bool true, .bool true] _ hrg Tryz.underlying70 rfl (by kernel_rfl) ?_
            refine wpList_plain rfl fun C hC => ?_
            go_simp
            refine hC _ _ ?_
            clear hC C
            refine wpL_append_run rfl (.tmp 48) (.tmp 50) 66 66 rfl rfl _ _ s2 W6 rfl rfl hr6 ?_
            refine wpList_plain rfl fun C hC => ?_
            go_simp
            refine hC _ _ ?_
            clear hC C hr6 hrg HM4
            go_wp2_with fail
            go_roundw
            case rel => exact ⟨la, lb, done ++ [((some ⟨xp, xk, xm, xt, xb⟩, some ⟨yp, yg, ⟨yi, yk, ym, yt, yb⟩⟩) : Option Im × Option Em)], ⟨HRa.out, HRb.out, (fun q hq => H.out.oa q (List.mem_cons_of_mem _ hq)), (fun q hq => H.out.ob q (List.mem_cons_of_mem _ hq)), HO6.out, HB6.out, by rw [H.out.eq]; exact (congrArg (done ++ ·) (Dl.side_eq (f := fun x : Im => x.it.path) (g := fun y : Em => y.ed.path) HE.out la lb)).trans (by simp), by have := H.out.len; simp only [List.length_append, List.length_cons, List.length_nil] at *; omega⟩⟩
            case measure => have q1 := HLa.out; have q2 := HLb.out; have q3 := HN1.out; have q4 := HN2.out; (try rw [q1]); (try rw [q2]); simp only [lenIE]; omega
          · have HE : Hid ((⟨xp, xk, xm, xt, xb⟩ : Im).it.path ≠ (⟨yp, yg, ⟨yi, yk, ym, yt, yb⟩⟩ : Em).ed.path) := hne
            have HE2 : Hid ((Nn.less (⟨xp, xk, xm, xt, xb⟩ : Im).it.path (⟨yp, yg, ⟨yi, yk, ym, yt, yb⟩⟩ : Em).ed.path).1 = true) := hls
            clear hne hls HC3
            go_upto_region 6 with fail
            have HGa : Hid (∀ W, GA imC emC 70 wr.heap.size ⟨xp, xk, xm, xt, xb⟩ W2 W → W.rangeAt bk o (imC ⟨xp, xk, xm, xt, xb⟩)) := fun W hW => HXa.out W (HB2.out.trans (hW.kept.below HB2.out.size fun q hq e => by omega))
            refine wp_region_rel (G := GA imC emC 70 wr.heap.size ⟨xp, xk, xm, xt, xb⟩) (W0 := W2) GA.refl GA.trans (by kernel_rfl) (by kernel_rfl) (by kernel_rfl) (GA.drew W2) ?_
            refine .inl ⟨.slice (some ⟨bk, o, none⟩) (n1 + 1) pc, fun v W hW hd => step_run (by first | rfl | simp [Region.wanted, yielded]) _ W (by clear hd; go_simp) rfl (GA.refl _), ?_⟩
            simp only [Act.put, List.setIfInBounds_toArray, List.set_cons_zero, List.set_cons_succ]
            refine .inl ⟨.pointer (some ⟨bk, o, none⟩), fun v W hW hd => step_run (by first | rfl | simp [Region.wanted, yielded]) _ W (by clear hd; go_simp) rfl (GA.refl _), ?_⟩
            simp only [Act.put, List.setIfInBounds_toArray, List.set_cons_zero, List.set_cons_succ]
            refine .inl ⟨.agg #[.string xp, .int .i64 xk, .int .i64 xm, .int .i64 xt, .string xb], fun v W hW hd => step_run rfl _ W (exec_ld 27 (.tmp 33) rfl bk o rfl (imC ⟨xp, xk, xm, xt, xb⟩) _ (HGa.out W hW) Tryz.underlying27 rfl (by kernel_rfl)) rfl (GA.refl _), ?_⟩
            simp only [Act.put, List.setIfInBounds_toArray, List.set_cons_zero, List.set_cons_succ]
            refine .inl ⟨.slice (some ⟨bk, o, none⟩) (n1 + 1) pc, fun v W hW hd => step_run (by first | rfl | simp [Region.wanted, yielded]) _ W (by clear hd; go_simp) rfl (GA.refl _), ?_⟩
            simp only [Act.put, List.setIfInBounds_toArray, List.set_cons_zero, List.set_cons_succ]
            refine .inl ⟨va, fun v W hW hd => step_run (by first | rfl | simp [Region.wanted, yielded]) _ W (by clear hd; have hv := Hva.out; have hq : ¬ ((n1 : Int) + 1 < 1) := (by omega); go_simp) rfl (GA.refl _), ?_⟩
            simp only [Act.put, List.setIfInBounds_toArray, List.set_cons_zero, List.set_cons_succ]
            refine .inl ⟨.pointer (some ⟨wr.heap.size, 0, none⟩), fun v W hW hd => step_run (by first | rfl | simp [Region.wanted, yielded]) _ W (by clear hd; go_simp) rfl (GA.refl _), ?_⟩
            simp only [Act.put, List.setIfInBounds_toArray, List.set_cons_zero, List.set_cons_succ]
            refine .inr ⟨fun _ W => ∃ f, W.heap[wr.heap.size]? = some (.cells (qC imC emC ⟨xp, xk, xm, xt, xb⟩ (em0) f false).toArray 70 (0, 0)), fun u W W' hv hg => ?_, fun v W hW hd => ?_, ?_⟩
            · obtain ⟨f, hv⟩ := hv
              obtain ⟨x1, f1, e, _, h⟩ := hg.blk _ _ _ _ hv
              exact ⟨f1, by rw [show x1 = _ from e.elim id id] at h; exact h⟩
            · clear hd
              obtain ⟨x1, f1, _, _, hq⟩ := hW.blk im0 (em0) false false HM2.out
              exact step_still rfl (W.setCells wr.heap.size 0 (imC ⟨xp, xk, xm, xt, xb⟩)) (exec_st 27 (.tmp 37) (.tmp 34) rfl wr.heap.size 0 #[.string xp, .int .i64 xk, .int .i64 xm, .int .i64 xt, .string xb] rfl rfl (blk_there hq (Nat.le_of_ble_eq_true rfl)) (by kernel_rfl) (all_oneCell_toArray (imC_one ⟨xp, xk, xm, xt, xb⟩))) ⟨f1, setA_ie hq⟩ ⟨(Kept.refl _ _).sets (fun e => e rfl) _ _, fun x0 y0 f g h => ⟨_, _, .inr rfl, id, setA_ie h⟩⟩
            simp only [Act.put]
            refine .inl ⟨.pointer (some ⟨wr.heap.size, 12, none⟩), fun v W hW hd => step_run (by first | rfl | simp [Region.wanted, yielded]) _ W (by clear hd; go_simp) rfl (GA.refl _), ?_⟩
            simp only [Act.put, List.setIfInBounds_toArray, List.set_cons_zero, List.set_cons_succ]
            refine .inr ⟨fun _ W => ∃ x0, W.heap[wr.heap.size]? = some (.cells (qC imC emC x0 (em0) true false).toArray 70 (0, 0)), fun u W W' hv hg => ?_, fun v W hW hd => ?_, ?_⟩
            · obtain ⟨x0, hv⟩ := hv
              obtain ⟨x1, f1, _, e, h⟩ := hg.blk _ _ _ _ hv
              exact ⟨x1, by rw [e rfl] at h; exact h⟩
            · clear hd
              obtain ⟨x1, f1, _, _, hq⟩ := hW.blk im0 (em0) false false HM2.out
              have hth := (blk_there (o := 12) (k := 1) hq (Nat.le_of_ble_eq_true rfl)) 0 (by omega)
              have hf1 := hth.2
              obtain ⟨hcv, hf2⟩ := Option.isSome_iff_exists.1 hth.1
              simp only [Nat.add_zero] at hf1 hf2
              exact step_still rfl (W.setCell ⟨wr.heap.size, 12, none⟩ (.bool true)) (by clear hW hq hth; go_simp) ⟨x1, flgA_ie hq⟩ ⟨(Kept.refl _ _).setCell (a := ⟨wr.heap.size, 12, none⟩) (fun e => e rfl) _, fun x0 y0 f g h => ⟨_, _, .inl rfl, fun _ => rfl, flgA_ie h⟩⟩
            simp only [Act.put]
            refine .inl ⟨va, fun v W hW hd => step_run (by first | rfl | simp [Region.wanted, yielded]) _ W (by clear hd; go_simp) rfl (GA.refl _), ?_⟩
            simp only [Act.put, List.setIfInBounds_toArray, List.set_cons_zero]
            intro v W3 hW3 hV
            have h6 : ∃ f, W3.heap[wr.heap.size]? = some (.cells (qC imC emC ⟨xp, xk, xm, xt, xb⟩ (em0) f false).toArray 70 (0, 0)) := hV 6 (by decide)
            have h8 : ∃ x0, W3.heap[wr.heap.size]? = some (.cells (qC imC emC x0 (em0) true false).toArray 70 (0, 0)) := hV 8 (by decide)
            obtain ⟨f6, h6⟩ := h6
            obtain ⟨x8, h8⟩ := h8
            have HM4 : Hid (W3.heap[wr.heap.size]? = some (.cells (qC imC emC ⟨xp, xk, xm, xt, xb⟩ (em0) true false).toArray 70 (0, 0))) := by
              show _ = _
              rw [flagA (by rfl) h6 h8] at h6
              exact h6
            have HB4 : Hid (Below wr.heap.size wr W3) := HB2.out.trans (hW3.kept.below HB2.out.size fun q hq e => by omega)
            clear hV hW3 h6 h8 HGa HM2
            have HZ : Hid (W3.heap.size = W3.heap.size) := rfl
            obtain ⟨s2, W6, hr6, ho6, hg6⟩ := more_ie w.heap.size u7 done ((some ⟨xp, xk, xm, xt, xb⟩, none) : Option Im × Option Em) (W3.alloc (.cells #[.string xp, .int .i64 xk, .int .i64 xm, .int .i64 xt, .string xb, .string ⟨#[]⟩, .bool false, .string ⟨#[]⟩, .int .i64 0, .int .i64 0, .int .i64 0, .string ⟨#[]⟩, .bool true, .bool false] 70)) ((own_below H.out.row HB4.out).alloc _) W3.heap.size (heap_alloc_new W3 _) (by have := HL0.out; have := H.out.len; have := HN1.out; have := HN2.out; simp only [List.length_cons] at *; omega) (by have := H.out.bel.size; have := HB4.out.size; simp; omega)
            have HO6 : Hid (W6.ownsRow w.heap.size 70 14 s2 (done ++ [((some ⟨xp, xk, xm, xt, xb⟩, none) : Option Im × Option Em)]).length (rowR ieC (done ++ [((some ⟨xp, xk, xm, xt, xb⟩, none) : Option Im × Option Em)]))) := ho6
            have HB6 : Hid (Below w.heap.size w W6) := ((H.out.bel.trans (HB4.out.mono H.out.bel.size)).alloc (Nat.le_trans H.out.bel.size HB4.out.size) _).grown hg6 (by have := H.out.bel.size; have := HB4.out.size; simp; omega) fun g hg => (H.out.row.lt g hg).1
            have hrg := blk_range HM4.out
            clear ho6 hg6 HZ
            go_upto_region 9 with fail
            refine wp_region_lit ?_
            refine wpList_plain rfl fun C hC => ?_
            go_simp
            refine hC _ _ ?_
            clear hC C
            refine wpList_load_mid rfl 70 (.tmp 8) rfl wr.heap.size 0 rfl [.string xp, .int .i64 xk, .int .i64 xm, .int .i64 xt, .string xb, .string ⟨#[]⟩, .bool false, .string ⟨#[]⟩, .int .i64 0, .int .i64 0, .int .i64 0, .string ⟨#[]⟩, .bool true, .bool false] _ hrg Tryz.underlying70 rfl (by kernel_rfl) ?_
            refine wpList_plain rfl fun C hC => ?_
            go_simp
            refine hC _ _ ?_
            clear hC C
            refine wpL_append_run rfl (.tmp 48) (.tmp 50) 66 66 rfl rfl _ _ s2 W6 rfl rfl hr6 ?_
            refine wpList_plain rfl fun C hC => ?_
            go_simp
            refine hC _ _ ?_
            clear hC C hr6 hrg HM4
            go_wp2_with fail
            go_roundw
            case rel => exact ⟨la, ⟨yp, yg, ⟨yi, yk, ym, yt, yb⟩⟩ :: lb, done ++ [((some ⟨xp, xk, xm, xt, xb⟩, none) : Option Im × Option Em)], ⟨HRa.out, H.out.rb, (fun q hq => H.out.oa q (List.mem_cons_of_mem _ hq)), H.out.ob, HO6.out, HB6.out, by rw [H.out.eq]; exact (congrArg (done ++ ·) (Dl.side_lt (f := fun x : Im => x.it.path) (g := fun y : Em => y.ed.path) HE.out HE2.out la lb)).trans (by simp), by have := H.out.len; simp only [List.length_append, List.length_cons, List.length_nil] at *; omega⟩⟩
            case measure => have q1 := HLa.out; have q2 := HLb.out; have q3 := HN1.out; have q4 := HN2.out; (try rw [q1]); (try rw [q2]); simp only [lenIE]; omega
          · have HE : Hid ((⟨xp, xk, xm, xt, xb⟩ : Im).it.path ≠ (⟨yp, yg, ⟨yi, yk, ym, yt, yb⟩⟩ : Em).ed.path) := hne
            have HE2 : Hid ((Nn.less (⟨xp, xk, xm, xt, xb⟩ : Im).it.path (⟨yp, yg, ⟨yi, yk, ym, yt, yb⟩⟩ : Em).ed.path).1 = false) := hls
            clear hne hls HC3
            go_upto_region 8 with fail
            have HGb : Hid (∀ W, GB imC emC 70 wr.heap.size ⟨yp, yg, ⟨yi, yk, ym, yt, yb⟩⟩ W2 W → W.rangeAt bkk oo (emC ⟨yp, yg, ⟨yi, yk, ym, yt, yb⟩⟩)) := fun W hW => HXb.out W (HB2.out.trans (hW.kept.below HB2.out.size fun q hq e => by omega))
            refine wp_region_rel (G := GB imC emC 70 wr.heap.size ⟨yp, yg, ⟨yi, yk, ym, yt, yb⟩⟩) (W0 := W2) GB.refl GB.trans (by kernel_rfl) (by kernel_rfl) (by kernel_rfl) (GB.drew W2) ?_
            refine .inl ⟨.slice (some ⟨bkk, oo, none⟩) (n2 + 1) qc, fun v W hW hd => step_run (by first | rfl | simp [Region.wanted, yielded]) _ W (by clear hd; go_simp) rfl (GB.refl _), ?_⟩
            simp only [Act.put, List.setIfInBounds_toArray, List.set_cons_zero, List.set_cons_succ]
            refine .inl ⟨.pointer (some ⟨bkk, oo, none⟩), fun v W hW hd => step_run (by first | rfl | simp [Region.wanted, yielded]) _ W (by clear hd; go_simp) rfl (GB.refl _), ?_⟩
            simp only [Act.put, List.setIfInBounds_toArray, List.set_cons_zero, List.set_cons_succ]
            refine .inl ⟨.agg #[.string yp, .bool yg, .string yi, .int .i64 yk, .int .i64 ym, .int .i64 yt, .string yb], fun v W hW hd => step_run rfl _ W (exec_ld 30 (.tmp 42) rfl bkk oo rfl (emC ⟨yp, yg, ⟨yi, yk, ym, yt, yb⟩⟩) _ (HGb.out W hW) Tryz.underlying30 rfl (by kernel_rfl)) rfl (GB.refl _), ?_⟩
            simp only [Act.put, List.setIfInBounds_toArray, List.set_cons_zero, List.set_cons_succ]
            refine .inl ⟨.slice (some ⟨bkk, oo, none⟩) (n2 + 1) qc, fun v W hW hd => step_run (by first | rfl | simp [Region.wanted, yielded]) _ W (by clear hd; go_simp) rfl (GB.refl _), ?_⟩
            simp only [Act.put, List.setIfInBounds_toArray, List.set_cons_zero, List.set_cons_succ]
            refine .inl ⟨vb, fun v W hW hd => step_run (by first | rfl | simp [Region.wanted, yielded]) _ W (by clear hd; have hv := Hvb.out; have hq : ¬ ((n2 : Int) + 1 < 1) := (by omega); go_simp) rfl (GB.refl _), ?_⟩
            simp only [Act.put, List.setIfInBounds_toArray, List.set_cons_zero, List.set_cons_succ]
            refine .inl ⟨.pointer (some ⟨wr.heap.size, 5, none⟩), fun v W hW hd => step_run (by first | rfl | simp [Region.wanted, yielded]) _ W (by clear hd; go_simp) rfl (GB.refl _), ?_⟩
            simp only [Act.put, List.setIfInBounds_toArray, List.set_cons_zero, List.set_cons_succ]
            refine .inr ⟨fun _ W => ∃ g, W.heap[wr.heap.size]? = some (.cells (qC imC emC im0 ⟨yp, yg, ⟨yi, yk, ym, yt, yb⟩⟩ false g).toArray 70 (0, 0)), fun u W W' hv hg => ?_, fun v W hW hd => ?_, ?_⟩
            · obtain ⟨f, hv⟩ := hv
              obtain ⟨x1, f1, e, _, h⟩ := hg.blk _ _ _ _ hv
              exact ⟨f1, by rw [show x1 = _ from e.elim id id] at h; exact h⟩
            · clear hd
              obtain ⟨x1, f1, _, _, hq⟩ := hW.blk im0 (em0) false false HM2.out
              exact step_still rfl (W.setCells wr.heap.size 5 (emC ⟨yp, yg, ⟨yi, yk, ym, yt, yb⟩⟩)) (exec_st 30 (.tmp 46) (.tmp 43) rfl wr.heap.size 5 #[.string yp, .bool yg, .string yi, .int .i64 yk, .int .i64 ym, .int .i64 yt, .string yb] rfl rfl (blk_there hq (Nat.le_of_ble_eq_true rfl)) (by kernel_rfl) (all_oneCell_toArray (emC_one ⟨yp, yg, ⟨yi, yk, ym, yt, yb⟩⟩))) ⟨f1, setB_ie hq⟩ ⟨(Kept.refl _ _).sets (fun e => e rfl) _ _, fun x0 y0 f g h => ⟨_, _, .inr rfl, id, setB_ie h⟩⟩
            simp only [Act.put]
            refine .inl ⟨.pointer (some ⟨wr.heap.size, 13, none⟩), fun v W hW hd => step_run (by first | rfl | simp [Region.wanted, yielded]) _ W (by clear hd; go_simp) rfl (GB.refl _), ?_⟩
            simp only [Act.put, List.setIfInBounds_toArray, List.set_cons_zero, List.set_cons_succ]
            refine .inr ⟨fun _ W => ∃ y0, W.heap[wr.heap.size]? = some (.cells (qC imC emC im0 y0 false true).toArray 70 (0, 0)), fun u W W' hv hg => ?_, fun v W hW hd => ?_, ?_⟩
            · obtain ⟨x0, hv⟩ := hv
              obtain ⟨x1, f1, _, e, h⟩ := hg.blk _ _ _ _ hv
              exact ⟨x1, by rw [e rfl] at h; exact h⟩
            · clear hd
              obtain ⟨x1, f1, _, _, hq⟩ := hW.blk im0 (em0) false false HM2.out
              have hth := (blk_there (o := 13) (k := 1) hq (Nat.le_of_ble_eq_true rfl)) 0 (by omega)
              have hf1 := hth.2
              obtain ⟨hcv, hf2⟩ := Option.isSome_iff_exists.1 hth.1
              simp only [Nat.add_zero] at hf1 hf2
              exact step_still rfl (W.setCell ⟨wr.heap.size, 13, none⟩ (.bool true)) (by clear hW hq hth; go_simp) ⟨x1, flgB_ie hq⟩ ⟨(Kept.refl _ _).setCell (a := ⟨wr.heap.size, 13, none⟩) (fun e => e rfl) _, fun x0 y0 f g h => ⟨_, _, .inl rfl, fun _ => rfl, flgB_ie h⟩⟩
            simp only [Act.put]
            refine .inl ⟨vb, fun v W hW hd => step_run (by first | rfl | simp [Region.wanted, yielded]) _ W (by clear hd; go_simp) rfl (GB.refl _), ?_⟩
            simp only [Act.put, List.setIfInBounds_toArray, List.set_cons_zero, List.set_cons_succ]
            intro v W3 hW3 hV
            have h6 : ∃ g, W3.heap[wr.heap.size]? = some (.cells (qC imC emC im0 ⟨yp, yg, ⟨yi, yk, ym, yt, yb⟩⟩ false g).toArray 70 (0, 0)) := hV 6 (by decide)
            have h8 : ∃ y0, W3.heap[wr.heap.size]? = some (.cells (qC imC emC im0 y0 false true).toArray 70 (0, 0)) := hV 8 (by decide)
            obtain ⟨f6, h6⟩ := h6
            obtain ⟨x8, h8⟩ := h8
            have HM4 : Hid (W3.heap[wr.heap.size]? = some (.cells (qC imC emC im0 ⟨yp, yg, ⟨yi, yk, ym, yt, yb⟩⟩ false true).toArray 70 (0, 0))) := by
              show _ = _
              rw [flagB (by rfl) h6 h8] at h6
              exact h6
            have HB4 : Hid (Below wr.heap.size wr W3) := HB2.out.trans (hW3.kept.below HB2.out.size fun q hq e => by omega)
            clear hV hW3 h6 h8 HGb HM2
            have HZ : Hid (W3.heap.size = W3.heap.size) := rfl
            obtain ⟨s2, W6, hr6, ho6, hg6⟩ := more_ie w.heap.size u7 done ((none, some ⟨yp, yg, ⟨yi, yk, ym, yt, yb⟩⟩) : Option Im × Option Em) (W3.alloc (.cells #[.string ⟨#[]⟩, .int .i64 0, .int .i64 0, .int .i64 0, .string ⟨#[]⟩, .string yp, .bool yg, .string yi, .int .i64 yk, .int .i64 ym, .int .i64 yt, .string yb, .bool false, .bool true] 70)) ((own_below H.out.row HB4.out).alloc _) W3.heap.size (heap_alloc_new W3 _) (by have := HL0.out; have := H.out.len; have := HN1.out; have := HN2.out; simp only [List.length_cons] at *; omega) (by have := H.out.bel.size; have := HB4.out.size; simp; omega)
            have HO6 : Hid (W6.ownsRow w.heap.size 70 14 s2 (done ++ [((none, some ⟨yp, yg, ⟨yi, yk, ym, yt, yb⟩⟩) : Option Im × Option Em)]).length (rowR ieC (done ++ [((none, some ⟨yp, yg, ⟨yi, yk, ym, yt, yb⟩⟩) : Option Im × Option Em)]))) := ho6
            have HB6 : Hid (Below w.heap.size w W6) := ((H.out.bel.trans (HB4.out.mono H.out.bel.size)).alloc (Nat.le_trans H.out.bel.size HB4.out.size) _).grown hg6 (by have := H.out.bel.size; have := HB4.out.size; simp; omega) fun g hg => (H.out.row.lt g hg).1
            have hrg := blk_range HM4.out
            clear ho6 hg6 HZ
            go_upto_region 9 with fail
            refine wp_region_lit ?_
            refine wpList_plain rfl fun C hC => ?_
            go_simp
            refine hC _ _ ?_
            clear hC C
            refine wpList_load_mid rfl 70 (.tmp 8) rfl wr.heap.size 0 rfl [.string ⟨#[]⟩, .int .i64 0, .int .i64 0, .int .i64 0, .string ⟨#[]⟩, .string yp, .bool yg, .string yi, .int .i64 yk, .int .i64 ym, .int .i64 yt, .string yb, .bool false, .bool true] _ hrg Tryz.underlying70 rfl (by kernel_rfl) ?_
            refine wpList_plain rfl fun C hC => ?_
            go_simp
            refine hC _ _ ?_
            clear hC C
            refine wpL_append_run rfl (.tmp 48) (.tmp 50) 66 66 rfl rfl _ _ s2 W6 rfl rfl hr6 ?_
            refine wpList_plain rfl fun C hC => ?_
            go_simp
            refine hC _ _ ?_
            clear hC C hr6 hrg HM4
            go_wp2_with fail
            go_roundw
            case rel => exact ⟨⟨xp, xk, xm, xt, xb⟩ :: la, lb, done ++ [((none, some ⟨yp, yg, ⟨yi, yk, ym, yt, yb⟩⟩) : Option Im × Option Em)], ⟨H.out.ra, HRb.out, H.out.oa, (fun q hq => H.out.ob q (List.mem_cons_of_mem _ hq)), HO6.out, HB6.out, by rw [H.out.eq]; exact (congrArg (done ++ ·) (Dl.side_gt (f := fun x : Im => x.it.path) (g := fun y : Em => y.ed.path) HE.out HE2.out la lb)).trans (by simp), by have := H.out.len; simp only [List.length_append, List.length_cons, List.length_nil] at *; omega⟩⟩
            case measure => have q1 := HLa.out; have q2 := HLb.out; have q3 := HN1.out; have q4 := HN2.out; (try rw [q1]); (try rw [q2]); simp only [lenIE]; omega
  case rest =>
    obtain ⟨la, lb, done, H, HE⟩ := hcut
    obtain ⟨pa, pc, rfl, hpc1, hpc2⟩ := H.out.ra.slice
    obtain ⟨qa, qc, rfl, hqc1, hqc2⟩ := H.out.rb.slice
    obtain ⟨n1, hn1⟩ : ∃ n, n = la.length := ⟨_, rfl⟩
    obtain ⟨n2, hn2⟩ : ∃ n, n = lb.length := ⟨_, rfl⟩
    have HN1 : Hid (n1 = la.length) := hn1
    have HN2 : Hid (n2 = lb.length) := hn2
    have HLn : Hid (done.length + (la.length + lb.length) ≤ na + nb) := by have := H.out.len; show _ ≤ _; omega
    have HF : Hid (sdIE a b = (done ++ la.map (fun x : Im => ((some x, none) : Option Im × Option Em))) ++ lb.map (fun y : Em => ((none, some y) : Option Im × Option Em))) := by
      show _ = _
      rw [H.out.eq]
      rcases HE.out with e | e
      · subst e
        exact (congrArg (done ++ ·) (Dl.side_nil lb)).trans (by simp)
      · subst e
        exact (congrArg (done ++ ·) (Dl.side_nil2 la)).trans (by simp)
    rw [← hn1] at hpc1 H ⊢
    rw [← hn2] at hqc1 H ⊢
    clear hn1 hn2 HE
    go_wp2_with fail
    go_loopw [7, 54] (fun s i wr => ∃ k : Nat, k ≤ n1 ∧ i = .int .i64 k ∧ Hid (wr.ownsRow w.heap.size 70 14 s (done ++ (la.take k).map (fun x : Im => ((some x, none) : Option Im × Option Em))).length (rowR ieC (done ++ (la.take k).map (fun x : Im => ((some x, none) : Option Im × Option Em))))) ∧ Hid (Below w.heap.size w wr)) (fun _ i _ => n1 - (intOf i).toNat)
    case atStart => exact ⟨0, by omega, rfl, by show World.ownsRow _ _ _ _ _ _ _; simpa using H.out.row, H.out.bel⟩
    case round =>
      obtain ⟨k, hk, rfl, HO, HB⟩ := hrel
      by_cases hlt : k < n1
      · obtain ⟨t, ht⟩ : ∃ t, la[k]? = some t := ⟨_, List.getElem?_eq_getElem (by have := HN1.out; omega)⟩
        obtain ⟨bk, o, rfl, hbk, c0, c1, c2, c3, c4⟩ := (H.out.ra.below HB.out).item k t ht
        have HDn : Hid ((done ++ (la.take (k + 1)).map (fun x : Im => ((some x, none) : Option Im × Option Em))) = (done ++ (la.take k).map (fun x : Im => ((some x, none) : Option Im × Option Em))) ++ [(fun x : Im => ((some x, none) : Option Im × Option Em)) t]) := by show _ = _; rw [List.take_add_one, ht]; simp
        obtain ⟨xp, xk, xm, xt, xb⟩ := t
        dsimp only at c0 c1 c2 c3 c4
        obtain ⟨s2, W6, hr6, ho6, hg6⟩ := more_ie w.heap.size u7 _ ((fun x : Im => ((some x, none) : Option Im × Option Em)) ⟨xp, xk, xm, xt, xb⟩) ((wr.alloc (.cells #[.string xp, .int .i64 xk, .int .i64 xm, .int .i64 xt, .string xb] 27)).alloc (.cells #[.string xp, .int .i64 xk, .int .i64 xm, .int .i64 xt, .string xb, .string ⟨#[]⟩, .bool false, .string ⟨#[]⟩, .int .i64 0, .int .i64 0, .int .i64 0, .string ⟨#[]⟩, .bool true, .bool false] 70)) ((HO.out.alloc _).alloc _) (wr.heap.size + 1) (by rw [show wr.heap.size + 1 = (wr.alloc (.cells #[.string xp, .int .i64 xk, .int .i64 xm, .int .i64 xt, .string xb] 27)).heap.size from by simp]; exact heap_alloc_new _ _) (by have := HL0.out; have := HLn.out; have := HN1.out; have := HN2.out; simp only [List.length_append, List.length_map, List.length_take]; omega) (by have := HB.out.size; simp; omega)
        have HO6 : Hid (W6.ownsRow w.heap.size 70 14 s2 (done ++ (la.take (k + 1)).map (fun x : Im => ((some x, none) : Option Im × Option Em))).length (rowR ieC (done ++ (la.take (k + 1)).map (fun x : Im => ((some x, none) : Option Im × Option Em))))) := by
          rw [HDn.out]; exact ho6
        have HB6 : Hid (Below w.heap.size w W6) := (((HB.out.alloc HB.out.size _).alloc (by have := HB.out.size; simp; omega) _)).grown hg6 (by have := HB.out.size; simp; omega) fun g hg => (HO.out.lt g hg).1
        clear ho6 hg6 ht HDn
        go_wp2_with (at_builtin; refine wpL_append_run rfl (.tmp 58) (.tmp 61) 66 66 rfl rfl _ _ s2 W6 rfl rfl hr6 ?_)
        clear hr6 c0 c1 c2 c3 c4
        go_roundw
        case measure => simp only [intOf]; omega
        case rel => exact ⟨k + 1, by omega, by go_num, HO6, HB6⟩
      · obtain rfl : k = n1 := by omega
        have HO1 : Hid (wr.ownsRow w.heap.size 70 14 u7 (done ++ la.map (fun x : Im => ((some x, none) : Option Im × Option Em))).length (rowR ieC (done ++ la.map (fun x : Im => ((some x, none) : Option Im × Option Em))))) := by
          have h := HO.out
          rw [List.take_of_length_le (by have := HN1.out; omega)] at h
          exact h
        clear HO
        go_wp2_with fail
        go_loopw [7, 66] (fun s i wr => ∃ k : Nat, k ≤ n2 ∧ i = .int .i64 k ∧ Hid (wr.ownsRow w.heap.size 70 14 s ((done ++ la.map (fun x : Im => ((some x, none) : Option Im × Option Em))) ++ (lb.take k).map (fun y : Em => ((none, some y) : Option Im × Option Em))).length (rowR ieC ((done ++ la.map (fun x : Im => ((some x, none) : Option Im × Option Em))) ++ (lb.take k).map (fun y : Em => ((none, some y) : Option Im × Option Em))))) ∧ Hid (Below w.heap.size w wr)) (fun _ i _ => n2 - (intOf i).toNat)
        case atStart => exact ⟨0, by omega, rfl, by show World.ownsRow _ _ _ _ _ _ _; simpa using HO1.out, HB.out⟩
        case round =>
          obtain ⟨k, hk, rfl, HO, HB⟩ := hrel
          clear HO1
          by_cases hlt : k < n2
          · obtain ⟨t, ht⟩ : ∃ t, lb[k]? = some t := ⟨_, List.getElem?_eq_getElem (by have := HN2.out; omega)⟩
            obtain ⟨bk, o, rfl, hbk, c0, c1, c2, c3, c4, c5, c6⟩ := (H.out.rb.below HB.out).edit k t ht
            have HDn : Hid (((done ++ la.map (fun x : Im => ((some x, none) : Option Im × Option Em))) ++ (lb.take (k + 1)).map (fun y : Em => ((none, some y) : Option Im × Option Em))) = ((done ++ la.map (fun x : Im => ((some x, none) : Option Im × Option Em))) ++ (lb.take k).map (fun y : Em => ((none, some y) : Option Im × Option Em))) ++ [(fun y : Em => ((none, some y) : Option Im × Option Em)) t]) := by show _ = _; rw [List.take_add_one, ht]; simp
            obtain ⟨yp, yg, ⟨yi, yk, ym, yt, yb⟩⟩ := t
            dsimp only at c0 c1 c2 c3 c4 c5 c6
            obtain ⟨s2, W6, hr6, ho6, hg6⟩ := more_ie w.heap.size u7 _ ((fun y : Em => ((none, some y) : Option Im × Option Em)) ⟨yp, yg, ⟨yi, yk, ym, yt, yb⟩⟩) ((wr.alloc (.cells #[.string yp, .bool yg, .string yi, .int .i64 yk, .int .i64 ym, .int .i64 yt, .string yb] 30)).alloc (.cells #[.string ⟨#[]⟩, .int .i64 0, .int .i64 0, .int .i64 0, .string ⟨#[]⟩, .string yp, .bool yg, .string yi, .int .i64 yk, .int .i64 ym, .int .i64 yt, .string yb, .bool false, .bool true] 70)) ((HO.out.alloc _).alloc _) (wr.heap.size + 1) (by rw [show wr.heap.size + 1 = (wr.alloc (.cells #[.string yp, .bool yg, .string yi, .int .i64 yk, .int .i64 ym, .int .i64 yt, .string yb] 30)).heap.size from by simp]; exact heap_alloc_new _ _) (by have := HL0.out; have := HLn.out; have := HN1.out; have := HN2.out; simp only [List.length_append, List.length_map, List.length_take]; omega) (by have := HB.out.size; simp; omega)
            have HO6 : Hid (W6.ownsRow w.heap.size 70 14 s2 ((done ++ la.map (fun x : Im => ((some x, none) : Option Im × Option Em))) ++ (lb.take (k + 1)).map (fun y : Em => ((none, some y) : Option Im × Option Em))).length (rowR ieC ((done ++ la.map (fun x : Im => ((some x, none) : Option Im × Option Em))) ++ (lb.take (k + 1)).map (fun y : Em => ((none, some y) : Option Im × Option Em))))) := by
              rw [HDn.out]; exact ho6
            have HB6 : Hid (Below w.heap.size w W6) := (((HB.out.alloc HB.out.size _).alloc (by have := HB.out.size; simp; omega) _)).grown hg6 (by have := HB.out.size; simp; omega) fun g hg => (HO.out.lt g hg).1
            clear ho6 hg6 ht HDn
            go_wp2_with (at_builtin; refine wpL_append_run rfl (.tmp 70) (.tmp 73) 66 66 rfl rfl _ _ s2 W6 rfl rfl hr6 ?_)
            clear hr6 c0 c1 c2 c3 c4 c5 c6
            go_roundw
            case measure => simp only [intOf]; omega
            case rel => exact ⟨k + 1, by omega, by go_num, HO6, HB6⟩
          · obtain rfl : k = n2 := by omega
            have HO2 : Hid (wr.ownsRow w.heap.size 70 14 u7 (sdIE a b).length (rowR ieC (sdIE a b))) := by
              have h := HO.out
              rw [List.take_of_length_le (by have := HN2.out; omega), ← HF.out] at h
              exact h
            go_wp2_with fail
            go_ret
            exact ⟨_, rfl, HO2.out, HB.out⟩
end Go.Proofs.YthpcbbkpjggjbaaGreatDoor
namespace Go.Proofs.YthpcbbkpjggjbaaGreatDoor
open Go.RowKit
set_option maxRecDepth 4000
set_option maxHeartbeats 1000000 in
theorem has_any (x : Em) (w : World) :
    Calls Tryz.prog 44 #[emV x] w fun e w' => e = .returned (.bool (hasB x)) ∧ Below w.heap.size w w' := by
  obtain ⟨xp, xg, ⟨xi, xk, xm, xt, xb⟩⟩ := x
  obtain ⟨W1, hW1⟩ : ∃ W1, W1 = w.alloc (.cells #[.string xp, .bool xg, .string xi, .int .i64 xk, .int .i64 xm, .int .i64 xt, .string xb] 30) := ⟨_, rfl⟩
  have HB1 : Hid (Below w.heap.size w W1) := by rw [hW1]; exact (Below.refl _ w).alloc (Nat.le_refl _) _
  have HM1 : W1.heap[w.heap.size]? = some (.cells #[.string xp, .bool xg, .string xi, .int .i64 xk, .int .i64 xm, .int .i64 xt, .string xb] 30 (0, 0)) := by rw [hW1]; exact heap_alloc_new w _
  obtain ⟨m0, m1, m2, m3, m4, m5, m6, mlt⟩ := ed_at HM1
  have heq : ∀ W, (Op.equalIn 10000 27 (.agg #[.string xi, .int .i64 xk, .int .i64 xm, .int .i64 xt, .string xb]) (.agg #[.string ⟨#[]⟩, .int .i64 0, .int .i64 0, .int .i64 0, .string ⟨#[]⟩])).run Tryz.prog W = .ok (imSame ⟨xi, xk, xm, xt, xb⟩ im0) W := fun W => it_cmp W ⟨xi, xk, xm, xt, xb⟩ im0
  have HH : Hid (hasB ⟨xp, xg, ⟨xi, xk, xm, xt, xb⟩⟩ = if xg = true then imSame ⟨xi, xk, xm, xt, xb⟩ im0 else (xi.toList == xp.toList)) := rfl
  generalize hasB ⟨xp, xg, ⟨xi, xk, xm, xt, xb⟩⟩ = HBl at *
  generalize imSame ⟨xi, xk, xm, xt, xb⟩ im0 = SM at *
  clear HM1
  go_enter Tryz.func44, Tryz.ntmps44
  go_upto_region 1 with fail
  rw [← hW1]
  clear hW1
  cases xg with
  | true =>
    have HHe : Hid (HBl = SM) := by show _ = _; rw [HH.out, if_pos rfl]
    clear HH
    go_wp2_with fail
    go_ret
    exact ⟨by rw [HHe.out]; rfl, HB1.out⟩
  | false =>
    have HHe : Hid (HBl = (xi.toList == xp.toList)) := by show _ = _; rw [HH.out, if_neg (by decide)]
    clear HH
    obtain ⟨q, hq⟩ : ∃ q, q = (xi.toList == xp.toList) := ⟨_, rfl⟩
    rw [← hq] at HHe
    have hq2 : (xi.toList == xp.toList) = q := hq.symm
    clear hq
    go_wp2_with fail
    go_ret
    exact ⟨by rw [HHe.out, ← hq2]; rfl, HB1.out⟩
def prE (l : List Em) (k : Nat) : Option Dl.Ed := if k = 0 then none else (l[k - 1]?).map Em.ed
theorem chk_step {l : List Em} {k : Nat} {x : Em} (hx : l[k]? = some x) : Dl.chkF (prE l k) (edl (l.drop k)) = if Dl.eErr x.ed ≠ 0 then Dl.eErr x.ed else if Dl.lateE (prE l k) x.ed = true then 4 else Dl.chkF (prE l (k + 1)) (edl (l.drop (k + 1))) := by
  have hlt := (List.getElem?_eq_some_iff.1 hx).1
  have e0 : edl (l.drop k) = x.ed :: edl (l.drop (k + 1)) := by
    rw [List.drop_eq_getElem_cons hlt, (List.getElem?_eq_some_iff.1 hx).2]; rfl
  have e1 : prE l (k + 1) = some x.ed := by unfold prE; rw [if_neg (by omega), Nat.add_sub_cancel, hx]; rfl
  rw [e0, Dl.chkF, e1]
theorem late_step {l : List Em} {k : Nat} {x y : Em} (hy : l[k]? = some y) : Dl.lateE (prE l (k + 1)) x.ed = !(Nn.less y.path.data.toList x.path.data.toList).1 := by
  have e1 : prE l (k + 1) = some y.ed := by unfold prE; rw [if_neg (by omega), Nat.add_sub_cancel, hy]; rfl
  rw [e1]
  rfl
set_option maxHeartbeats 8000000 in
theorem dcheck_any (v : Value) (l : List Em) (w : World) (h : Eds w v l) (hl : l.length ≤ 140737488351232) (hok : ∀ x ∈ l, x.Ok) (hT : Tabs w) :
    Calls Tryz.prog 26 #[v] w fun e w' => e = .returned (.int .i64 (Dl.check (edl l))) ∧ Below w.heap.size w w' := by
  obtain ⟨a, c, rfl, hlc1, hlc2⟩ := h.slice
  by_cases h200 : 200 < l.length
  · have HR : Hid (Dl.check (edl l) = 2) := by show _ = _; unfold Dl.check; rw [if_pos (by rw [edl_length]; exact h200)]
    generalize Dl.check (edl l) = R at *
    have hgt : ((l.length : Int) > 200) := by omega
    clear h hok hT
    go_enter Tryz.func26, Tryz.ntmps26
    go_wp2_with fail
    go_ret
    exact ⟨by rw [HR.out]; rfl, Below.refl _ _⟩
  have HR : Hid (Dl.check (edl l) = Dl.chkF (prE l 0) (edl (l.drop 0))) := by show _ = _; unfold Dl.check; rw [if_neg (by rw [edl_length]; exact h200)]; rfl
  generalize Dl.check (edl l) = R at *
  have HX : Hid (Eds w (.slice a l.length c) l) := h
  have HK : Hid (∀ x ∈ l, x.Ok) := hok
  have HT : Hid (Tabs w) := hT
  obtain ⟨N, hN⟩ : ∃ N, N = l.length := ⟨_, rfl⟩
  have HN : Hid (N = l.length) := hN
  rw [← hN] at HX hlc1 h200 ⊢
  clear h hok hT hN hl
  have hgt : ¬ ((N : Int) > 200) := by omega
  go_enter Tryz.func26, Tryz.ntmps26
  go_wp2_with fail
  clear hgt
  go_loopw [12] (fun i wr => ∃ k : Nat, k ≤ N ∧ i = .int .i64 k ∧ Hid (R = Dl.chkF (prE l k) (edl (l.drop k))) ∧ Hid (Below w.heap.size w wr)) (fun i _ => N - (intOf i).toNat)
  case atStart => exact ⟨0, by omega, rfl, HR, Below.refl _ _⟩
  case round =>
    clear HR
    obtain ⟨k, hk, rfl, HE, HB⟩ := hrel
    by_cases hlt : k < N
    · have hkl : k < l.length := by have := HN.out; omega
      obtain ⟨x, hx⟩ : ∃ x, l[k]? = some x := ⟨_, List.getElem?_eq_getElem hkl⟩
      have hxo := HK.out x (List.mem_of_getElem? hx)
      have hst := chk_step hx
      rw [← HE.out, eErr_has] at hst
      have HS : Hid (R = if (if (Nn.split x.path.data.toList).2 ≠ 0 then (Nn.split x.path.data.toList).2 else if hasB x = false then 4 else 0) ≠ 0 then (if (Nn.split x.path.data.toList).2 ≠ 0 then (Nn.split x.path.data.toList).2 else if hasB x = false then 4 else 0) else if Dl.lateE (prE l k) x.ed = true then 4 else Dl.chkF (prE l (k + 1)) (edl (l.drop (k + 1)))) := hst
      obtain ⟨kb, ko, rfl, hkb, u0, u1, u2, u3, u4, u5, u6⟩ := (HX.out.below HB.out).edit k x hx
      obtain ⟨W1, hW1⟩ : ∃ W1, W1 = wr.alloc (.cells #[.string x.path, .bool x.gone, .string x.item.path, .int .i64 x.item.kind, .int .i64 x.item.mode, .int .i64 x.item.time, .string x.item.bytes] 30) := ⟨_, rfl⟩
      have HB1 : Hid (Below w.heap.size w W1) := by rw [hW1]; exact HB.out.alloc HB.out.size _
      have HM1 : Hid (W1.heap[wr.heap.size]? = some (.cells #[.string x.path, .bool x.gone, .string x.item.path, .int .i64 x.item.kind, .int .i64 x.item.mode, .int .i64 x.item.time, .string x.item.bytes] 30 (0, 0))) := by rw [hW1]; exact heap_alloc_new wr _
      have hsp := split_any x.path W1 (by have := hxo.path; omega) (HT.out.below HB1.out)
      unfold SpOut at hsp
      have hhas := fun W => has_any x W
      have HCm : Hid (∀ y, (∃ i, k = i + 1 ∧ l[i]? = some y) → ∀ W, Below w.heap.size w W → Calls Tryz.prog 31 #[emV y, emV x] W fun e w' => e = .returned (.int .i64 (Dl.cmp y.ed.path x.ed.path)) ∧ Below W.heap.size W w') := fun y ⟨i, _, hy⟩ W hW => cmpEE_any y x W (HK.out y (List.mem_of_getElem? hy)) hxo (HT.out.below hW)
      have HLt : Hid (∀ y, (∃ i, k = i + 1 ∧ l[i]? = some y) → (Dl.lateE (prE l k) x.ed = true ↔ 0 ≤ Dl.cmp y.ed.path x.ed.path)) := fun y ⟨i, e, hy⟩ => by
        subst e
        rw [late_step hy, cmp_late]
        show _ ↔ (Nn.less y.path.data.toList x.path.data.toList).1 = false
        cases (Nn.less y.path.data.toList x.path.data.toList).1 <;> simp
      have HL0 : Hid (k = 0 → Dl.lateE (prE l k) x.ed = false) := fun e => by subst e; rfl
      have HY : Hid (k ≠ 0 → ∃ y, (∃ i, k = i + 1 ∧ l[i]? = some y)) := fun e => ⟨l[k - 1]'(by omega), k - 1, by omega, List.getElem?_eq_getElem (by omega)⟩
      generalize hLt : Dl.lateE (prE l k) x.ed = LT at *
      obtain ⟨NX, hNX⟩ : ∃ NX, NX = Dl.chkF (prE l (k + 1)) (edl (l.drop (k + 1))) := ⟨_, rfl⟩
      have HNe : Hid (NX = Dl.chkF (prE l (k + 1)) (edl (l.drop (k + 1)))) := hNX
      rw [← hNX] at HS
      clear hNX
      generalize hE : (Nn.split x.path.data.toList).2 = SE at *
      generalize hasB x = HH at *
      clear hst hE hLt hkl hxo
      go_upto_region 6 with fail
      rw [← hW1]
      clear hW1 u0 u1 u2 u3 u4 u5 u6
      obtain ⟨m0, m1, m2, m3, m4, m5, m6, mlt⟩ := ed_at HM1.out
      go_wp2_with fail
      refine hsp.mono ?_
      rintro e w2 ⟨vs, ls, rfl, _, _, _, b2⟩
      have HB2 : Hid (Below w.heap.size w w2) := HB1.out.trans (b2.mono HB1.out.size)
      have HM2 : Hid (w2.heap[wr.heap.size]? = some (.cells #[.string x.path, .bool x.gone, .string x.item.path, .int .i64 x.item.kind, .int .i64 x.item.mode, .int .i64 x.item.time, .string x.item.bytes] 30 (0, 0))) := (b2.block _ mlt).trans HM1.out
      clear hsp b2 m0 m1 m2 m3 m4 m5 m6 mlt HM1 HB1
      obtain ⟨m0, m1, m2, m3, m4, m5, m6, mlt⟩ := ed_at HM2.out
      by_cases c1 : SE = 0
      case neg =>
        have hne : (SE != 0) = true := by rw [bne_iff_ne]; exact c1
        have HRe : Hid (R = SE) := by show _ = _; rw [HS.out, if_pos c1, if_pos c1]
        clear HS c1
        go_wp2_with fail
        go_ret
        exact ⟨by rw [HRe.out]; rfl, HB2.out⟩
      have hne : (SE != 0) = false := by rw [c1]; rfl
      have HS2 : Hid (R = if (if HH = false then (4 : Int) else 0) ≠ 0 then (if HH = false then (4 : Int) else 0) else if LT = true then 4 else NX) := by show _ = _; rw [HS.out, c1]; rfl
      clear HS c1
      cases HH with
      | false =>
        have HRe : Hid (R = 4) := by show _ = _; rw [HS2.out, if_pos rfl, if_pos (by decide)]
        clear HS2
        go_wp2_with fail
        refine (hhas _).mono ?_
        rintro e w3 ⟨rfl, b3⟩
        have HB3 : Hid (Below w.heap.size w w3) := HB2.out.trans (b3.mono HB2.out.size)
        clear hhas b3
        go_wp2_with fail
        go_ret
        exact ⟨by rw [HRe.out]; rfl, HB3.out⟩
      | true =>
        have HS3 : Hid (R = if LT = true then 4 else NX) := by show _ = _; rw [HS2.out]; rfl
        clear HS2
        go_wp2_with fail
        refine (hhas _).mono ?_
        rintro e w3 ⟨rfl, b3⟩
        have HB3 : Hid (Below w.heap.size w w3) := HB2.out.trans (b3.mono HB2.out.size)
        have HM3 : Hid (w3.heap[wr.heap.size]? = some (.cells #[.string x.path, .bool x.gone, .string x.item.path, .int .i64 x.item.kind, .int .i64 x.item.mode, .int .i64 x.item.time, .string x.item.bytes] 30 (0, 0))) := (b3.block _ mlt).trans HM2.out
        clear hhas b3 m0 m1 m2 m3 m4 m5 m6 mlt HM2 HB2
        go_upto_region 11 with fail
        by_cases c2 : k = 0
        · have HSe : Hid (R = NX) := by show _ = _; rw [HS3.out, HL0.out c2, if_neg (by decide)]
          subst c2
          refine wp_region_rel (G := Gw) (W0 := w3) Gw.refl Gw.trans (by kernel_rfl) (by kernel_rfl) (by kernel_rfl) (Below.refl _ w3).drew ?_
          refine .inl ⟨.int .i64 0, fun v W hW hd => step_run (by first | rfl | simp [Region.wanted, yielded]) _ W (by clear hd; go_simp) rfl (Gw.refl _), ?_⟩
          simp only [Act.put, List.setIfInBounds_toArray, List.set_cons_zero, List.set_cons_succ]
          refine .inl ⟨.bool false, fun v W hW hd => step_run (by first | rfl | simp [Region.wanted, yielded]) _ W (by clear hd; go_simp) rfl (Gw.refl _), ?_⟩
          simp only [Act.put, List.setIfInBounds_toArray, List.set_cons_zero, List.set_cons_succ]
          refine .inl ⟨.bool false, fun v W hW hd => step_run (by first | rfl | simp [Region.wanted, yielded]) _ W (by clear hd; go_simp) rfl (Gw.refl _), ?_⟩
          simp only [Act.put, List.setIfInBounds_toArray, List.set_cons_zero, List.set_cons_succ]
          refine .inl ⟨undef, fun v W hW hd => step_skip (by first | rfl | simp [Region.wanted, yielded]) rfl, ?_⟩
          simp only [Act.put, List.setIfInBounds_toArray, List.set_cons_zero, List.set_cons_succ]
          refine .inl ⟨undef, fun v W hW hd => step_skip (by first | rfl | simp [Region.wanted, yielded]) rfl, ?_⟩
          simp only [Act.put, List.setIfInBounds_toArray, List.set_cons_zero, List.set_cons_succ]
          refine .inl ⟨undef, fun v W hW hd => step_skip (by first | rfl | simp [Region.wanted, yielded]) rfl, ?_⟩
          simp only [Act.put, List.setIfInBounds_toArray, List.set_cons_zero, List.set_cons_succ]
          refine .inl ⟨undef, fun v W hW hd => step_skip (by first | rfl | simp [Region.wanted, yielded]) rfl, ?_⟩
          simp only [Act.put, List.setIfInBounds_toArray, List.set_cons_zero, List.set_cons_succ]
          refine .inl ⟨undef, fun v W hW hd => step_skip (by first | rfl | simp [Region.wanted, yielded]) rfl, ?_⟩
          simp only [Act.put, List.setIfInBounds_toArray, List.set_cons_zero, List.set_cons_succ]
          refine .inl ⟨undef, fun v W hW hd => step_skip (by first | rfl | simp [Region.wanted, yielded]) rfl, ?_⟩
          simp only [Act.put, List.setIfInBounds_toArray, List.set_cons_zero, List.set_cons_succ]
          refine .inl ⟨undef, fun v W hW hd => step_skip (by first | rfl | simp [Region.wanted, yielded]) rfl, ?_⟩
          simp only [Act.put, List.setIfInBounds_toArray, List.set_cons_zero, List.set_cons_succ]
          refine .inl ⟨undef, fun v W hW hd => step_skip (by first | rfl | simp [Region.wanted, yielded]) rfl, ?_⟩
          simp only [Act.put, List.setIfInBounds_toArray, List.set_cons_zero, List.set_cons_succ]
          refine .inl ⟨.bool false, fun v W hW hd => step_run (by first | rfl | simp [Region.wanted, yielded]) _ W (by clear hd; go_simp) rfl (Gw.refl _), ?_⟩
          simp only [Act.put, List.setIfInBounds_toArray, List.set_cons_zero, List.set_cons_succ]
          intro v w4 hW4 hV
          have HB4 : Hid (Below w.heap.size w w4) := HB3.out.trans (Below.mono hW4 HB3.out.size)
          clear hV hW4
          go_wp2_with fail
          go_roundw
          case measure => simp only [intOf]; omega
          case rel => exact ⟨0 + 1, by omega, by go_num, by show _ = _; rw [HSe.out, HNe.out], HB4⟩
        · obtain ⟨y, hy⟩ := HY.out c2
          have hlt2 := HLt.out y hy
          have HCy : Hid (∀ W, Below w.heap.size w W → Calls Tryz.prog 31 #[emV y, emV x] W fun e w' => e = .returned (.int .i64 (Dl.cmp y.ed.path x.ed.path)) ∧ Below W.heap.size W w') := HCm.out y hy
          obtain ⟨i, rfl, hyi⟩ := hy
          have HG : Hid (∀ W, Gw w3 W → W.rangeAt kb (ko + i * 7) (emC y)) := fun W hW r u hu => by
            obtain ⟨kb', ko', e, h1, h2⟩ := (HX.out.below HB3.out).get i y hyi
            cases e
            exact (Below.cell hW (p := ⟨kb, _, none⟩) h1).trans (h2 r u hu)
          have HGx : Hid (∀ W, Gw w3 W → W.rangeAt wr.heap.size 0 (emC x)) := fun W hW => blk_range ((Below.block hW _ (Array.getElem?_eq_some_iff.1 HM3.out).1).trans HM3.out)
          generalize Dl.cmp y.ed.path x.ed.path = C at *
          obtain ⟨yp, yg, ⟨yi, yk, ym, yt, yb⟩⟩ := y
          obtain ⟨xp, xg, ⟨xi, xk, xm, xt, xb⟩⟩ := x
          have hij : ((i : Int) + 1 - 1) = i := by omega
          have hgt : ((i : Int) + 1 > 0) := by omega
          have hwr : IntKind.i64.wrap (i : Int) = (i : Int) := by
            simp only [IntKind.wrap, IntKind.bits, IntKind.signed]
            simp
            omega
          have hiN : (i : Int) < (N : Int) := by omega
          have HLT : Hid (LT = true ↔ 0 ≤ C) := hlt2
          clear hlt2 hyi HCm HLt HL0 HY c2 HM3
          refine wp_region_rel (G := Gw) (W0 := w3) Gw.refl Gw.trans (by kernel_rfl) (by kernel_rfl) (by kernel_rfl) (Below.refl _ w3).drew ?_
          refine .inl ⟨.int .i64 ((i : Int) + 1), fun v W hW hd => step_run (by first | rfl | simp [Region.wanted, yielded]) _ W (by clear hd; go_simp) rfl (Gw.refl _), ?_⟩
          simp only [Act.put, List.setIfInBounds_toArray, List.set_cons_zero, List.set_cons_succ]
          refine .inl ⟨.bool true, fun v W hW hd => step_run (by first | rfl | simp [Region.wanted, yielded]) _ W (by clear hd; go_simp) rfl (Gw.refl _), ?_⟩
          simp only [Act.put, List.setIfInBounds_toArray, List.set_cons_zero, List.set_cons_succ]
          refine .inl ⟨.bool true, fun v W hW hd => step_run (by first | rfl | simp [Region.wanted, yielded]) _ W (by clear hd; go_simp) rfl (Gw.refl _), ?_⟩
          simp only [Act.put, List.setIfInBounds_toArray, List.set_cons_zero, List.set_cons_succ]
          refine .inl ⟨.slice (some ⟨kb, ko, none⟩) N c, fun v W hW hd => step_run (by first | rfl | simp [Region.wanted, yielded]) _ W (by clear hd; go_simp) rfl (Gw.refl _), ?_⟩
          simp only [Act.put, List.setIfInBounds_toArray, List.set_cons_zero, List.set_cons_succ]
          refine .inl ⟨.int .i64 ((i : Int) + 1), fun v W hW hd => step_run (by first | rfl | simp [Region.wanted, yielded]) _ W (by clear hd; go_simp) rfl (Gw.refl _), ?_⟩
          simp only [Act.put, List.setIfInBounds_toArray, List.set_cons_zero, List.set_cons_succ]
          refine .inl ⟨.int .i64 (i : Int), fun v W hW hd => step_run (by first | rfl | simp [Region.wanted, yielded]) _ W (by clear hd; have he := hij; have hf := hwr; go_simp) rfl (Gw.refl _), ?_⟩
          simp only [Act.put, List.setIfInBounds_toArray, List.set_cons_zero, List.set_cons_succ]
          refine .inl ⟨.pointer (some ⟨kb, ko + i * 7, none⟩), fun v W hW hd => step_run (by first | rfl | simp [Region.wanted, yielded]) _ W (by clear hd; go_simp) rfl (Gw.refl _), ?_⟩
          simp only [Act.put, List.setIfInBounds_toArray, List.set_cons_zero, List.set_cons_succ]
          refine .inl ⟨.agg #[.string yp, .bool yg, .string yi, .int .i64 yk, .int .i64 ym, .int .i64 yt, .string yb], fun v W hW hd => step_run (by first | rfl | simp [Region.wanted, yielded]) _ W (exec_ld 30 (.tmp 35) rfl kb (ko + i * 7) rfl (emC ⟨yp, yg, ⟨yi, yk, ym, yt, yb⟩⟩) _ (HG.out W hW) Tryz.underlying30 rfl (by kernel_rfl)) rfl (Gw.refl _), ?_⟩
          simp only [Act.put, List.setIfInBounds_toArray, List.set_cons_zero, List.set_cons_succ]
          refine .inl ⟨.agg #[.string xp, .bool xg, .string xi, .int .i64 xk, .int .i64 xm, .int .i64 xt, .string xb], fun v W hW hd => step_run (by first | rfl | simp [Region.wanted, yielded]) _ W (exec_ld 30 (.tmp 4) rfl wr.heap.size 0 rfl (emC ⟨xp, xg, ⟨xi, xk, xm, xt, xb⟩⟩) _ (HGx.out W hW) Tryz.underlying30 rfl (by kernel_rfl)) rfl (Gw.refl _), ?_⟩
          simp only [Act.put, List.setIfInBounds_toArray, List.set_cons_zero, List.set_cons_succ]
          refine .inl ⟨.int .i64 C, fun v W hW hd => step_call (by first | rfl | simp [Region.wanted, yielded]) 31 #[.agg #[.string yp, .bool yg, .string yi, .int .i64 yk, .int .i64 ym, .int .i64 yt, .string yb], .agg #[.string xp, .bool xg, .string xi, .int .i64 xk, .int .i64 xm, .int .i64 xt, .string xb]] (by clear hd; go_simp) ((HCy.out W (HB3.out.trans (Below.mono hW HB3.out.size))).mono fun e w' h => ⟨_, h.1, rfl, h.2⟩), ?_⟩
          simp only [Act.put, List.setIfInBounds_toArray, List.set_cons_zero, List.set_cons_succ]
          refine .inl ⟨.bool (decide (C ≥ 0)), fun v W hW hd => step_run (by first | rfl | simp [Region.wanted, yielded]) _ W (by clear hd; go_simp) rfl (Gw.refl _), ?_⟩
          simp only [Act.put, List.setIfInBounds_toArray, List.set_cons_zero, List.set_cons_succ]
          refine .inl ⟨.bool (decide (C ≥ 0)), fun v W hW hd => step_run (by first | rfl | simp [Region.wanted, yielded]) _ W (by clear hd; go_simp) rfl (Gw.refl _), ?_⟩
          simp only [Act.put, List.setIfInBounds_toArray, List.set_cons_zero, List.set_cons_succ]
          intro v w4 hW4 hV
          have HB4 : Hid (Below w.heap.size w w4) := HB3.out.trans (Below.mono hW4 HB3.out.size)
          clear hV hW4 HCy HG HGx
          by_cases hC : 0 ≤ C
          · have hC2 : decide (C ≥ 0) = true := decide_eq_true hC
            have HRe : Hid (R = 4) := by show _ = _; rw [HS3.out, if_pos (HLT.out.2 hC)]
            have hC4 : ¬ (C < 0) := by omega
            clear HLT HS3
            go_wp2_with fail
            go_ret
            exact ⟨by rw [HRe.out]; rfl, HB4.out⟩
          · have hC2 : decide (C ≥ 0) = false := decide_eq_false hC
            have HRe : Hid (R = NX) := by show _ = _; rw [HS3.out, if_neg fun q => hC (HLT.out.1 q)]
            have hC4 : C < 0 := by omega
            clear HLT HS3
            go_wp2_with fail
            go_roundw
            case measure => simp only [intOf]; omega
            case rel => exact ⟨i + 1 + 1, by omega, by go_num, by show _ = _; rw [HRe.out, HNe.out], HB4⟩
    · obtain rfl : k = N := by omega
      have HRe : Hid (R = 0) := by
        have e : l.drop k = [] := by rw [HN.out]; exact List.drop_of_length_le (Nat.le_refl _)
        show _ = _
        rw [HE.out, e]; rfl
      go_wp2_with fail
      go_ret
      exact ⟨by rw [HRe.out]; rfl, HB.out⟩
end Go.Proofs.YthpcbbkpjggjbaaGreatDoor
namespace Go.Proofs.YthpcbbkpjggjbaaGreatDoor
open Go.RowKit
set_option maxRecDepth 4000
set_option maxHeartbeats 16000000 in
theorem dapply_any (va vb : Value) (a : List Im) (b : List Em) (w : World) (ha : Ims w va a) (hb : Eds w vb b) (la : a.length ≤ 140737488351232) (lb : b.length ≤ 140737488351232) (oa : ∀ x ∈ a, x.Ok) (ob : ∀ x ∈ b, x.Ok) (hT : Tabs w) :
    Calls Tryz.prog 8 #[va, vb] w fun e w' => ∃ v l, e = .returned (.tuple #[v, .int .i64 (Dl.apply (its a) (edl b)).2]) ∧ w'.ownsRow w.heap.size 27 5 v l.length (rowR imC l) ∧ its l = (Dl.apply (its a) (edl b)).1 ∧ (∀ x ∈ l, x.Ok) ∧ Below w.heap.size w w' := by
  have hca := wcheck_any va a w ha la oa hT
  have HCb : Hid (∀ W, Below w.heap.size w W → Calls Tryz.prog 26 #[vb] W fun e w' => e = .returned (.int .i64 (Dl.check (edl b))) ∧ Below W.heap.size W w') := fun W hW => dcheck_any vb b W (hb.below hW) lb ob (hT.below hW)
  have HSd : Hid (a.length + b.length ≤ 1000 → ∀ W, Below w.heap.size w W → Calls Tryz.prog 27 #[va, vb, .func (.func 28) #[] #[]] W fun e w' => ∃ v, e = .returned v ∧ w'.ownsRow W.heap.size 70 14 v (sdIE a b).length (rowR ieC (sdIE a b)) ∧ Below W.heap.size W w') := fun h W hW => sideIE_any va vb a b W (ha.below hW) (hb.below hW) h oa ob (hT.below hW)
  have HP : Hid (Dl.apply (its a) (edl b) = if Wk.world (its a) ≠ 0 then ([], Wk.world (its a)) else if Dl.check (edl b) ≠ 0 then ([], Dl.check (edl b)) else if Wk.world (Dl.appL (its a) (edl b)) ≠ 0 then ([], Wk.world (Dl.appL (its a) (edl b))) else (Dl.appL (its a) (edl b), 0)) := rfl
  have HT : Hid (Tabs w) := hT
  have HOa : Hid (∀ x ∈ a, x.Ok) := oa
  have HOb : Hid (∀ x ∈ b, x.Ok) := ob
  obtain ⟨RP, hRP⟩ : ∃ RP, RP = Dl.apply (its a) (edl b) := ⟨_, rfl⟩
  rw [← hRP] at HP ⊢
  obtain ⟨EA, hEA⟩ : ∃ EA, EA = Wk.world (its a) := ⟨_, rfl⟩
  obtain ⟨EB, hEB⟩ : ∃ EB, EB = Dl.check (edl b) := ⟨_, rfl⟩
  rw [← hEA] at hca
  rw [← hEB] at HCb
  have HEA : Hid (EA = Wk.world (its a)) := hEA
  have HEB : Hid (EB = Dl.check (edl b)) := hEB
  clear ha hb la lb oa ob hT hRP hEA hEB
  go_enter Tryz.func8, Tryz.ntmps8
  go_wp2_with fail
  refine hca.mono ?_
  rintro e w1 ⟨rfl, b1⟩
  have HB1 : Hid (Below w.heap.size w w1) := b1
  clear hca b1
  by_cases c1 : EA = 0
  case neg =>
    have hne : (EA != 0) = true := by rw [bne_iff_ne]; exact c1
    have HRe : Hid (RP = ([], EA)) := by show _ = _; rw [HP.out, ← HEA.out, if_pos c1]
    clear HP HSd HCb
    go_wp2_with fail
    go_ret2
    exact ⟨_, [], by rw [HRe.out]; rfl, World.ownsRow_nil _ _ _ _, by rw [HRe.out]; rfl, fun x hx => absurd hx List.not_mem_nil, HB1.out⟩
  have hne : (EA != 0) = false := by rw [c1]; rfl
  have HEA0 : Hid (Wk.world (its a) = 0) := by show _ = _; rw [← HEA.out]; exact c1
  go_wp2_with fail
  refine (HCb.out _ HB1.out).mono ?_
  rintro e w2 ⟨rfl, b2⟩
  have HB2 : Hid (Below w.heap.size w w2) := HB1.out.trans (b2.mono HB1.out.size)
  clear HCb b2 hne c1
  by_cases c2 : EB = 0
  case neg =>
    have hne : (EB != 0) = true := by rw [bne_iff_ne]; exact c2
    have HRe : Hid (RP = ([], EB)) := by show _ = _; rw [HP.out, if_neg (fun q => q HEA0.out), ← HEB.out, if_pos c2]
    clear HP HSd
    go_wp2_with fail
    go_ret2
    exact ⟨_, [], by rw [HRe.out]; rfl, World.ownsRow_nil _ _ _ _, by rw [HRe.out]; rfl, fun x hx => absurd hx List.not_mem_nil, HB2.out⟩
  have hne : (EB != 0) = false := by rw [c2]; rfl
  have HEB0 : Hid (Dl.check (edl b) = 0) := by show _ = _; rw [← HEB.out]; exact c2
  have hlen : a.length + b.length ≤ 1000 := by
    have h1 := (Dl.wld HEA0.out).1; have h2 := (Dl.check_ok.1 HEB0.out).1; rw [its_length] at h1; rw [edl_length] at h2; omega
  have hside := HSd.out hlen _ HB2.out
  obtain ⟨S, hS⟩ : ∃ S, S = sdIE a b := ⟨_, rfl⟩
  have HS : Hid (S = sdIE a b) := hS
  have HS3 : Hid (S.length ≤ 1000) := by
    show _ ≤ _
    rw [hS]
    exact Nat.le_trans (Dl.side_len _ _) hlen
  rw [← hS] at hside
  clear HSd c2 hlen hS
  go_wp2_with fail
  refine hside.mono ?_
  rintro e w4 ⟨vs, rfl, hs, b4⟩
  have HB4 : Hid (Below w.heap.size w w4) := HB2.out.trans (b4.mono HB2.out.size)
  have hR := Rx.of_own (C := ieC) (k := 14) ieC_len hs
  obtain ⟨sa, sc, rfl⟩ := own_form hs
  obtain ⟨N, hN⟩ : ∃ N, N = S.length := ⟨_, rfl⟩
  have HN : Hid (N = S.length) := hN
  rw [← hN] at hR ⊢
  have HR : Hid (Rx 14 ieC w4 (.slice sa N sc) S) := hR
  have hN3 : N ≤ 1000 := by have := HN.out; have := HS3.out; omega
  clear hside hs b4 hR hN hne
  go_wp2_with fail
  go_loopw [8, 26] (fun s i wr => ∃ k : Nat, k ≤ N ∧ i = .int .i64 k ∧ Hid (wr.ownsRow w4.heap.size 27 5 s ((S.take k).filterMap tA).length (rowR imC ((S.take k).filterMap tA))) ∧ Hid (Below w4.heap.size w4 wr)) (fun _ i _ => N - (intOf i).toNat)
  case atStart => exact ⟨0, by omega, rfl, World.ownsRow_nil _ _ _ _, Below.refl _ _⟩
  case round =>
    obtain ⟨k, hk, rfl, HO, HB⟩ := hrel
    by_cases hlt : k < N
    · obtain ⟨z, ht⟩ : ∃ z, S[k]? = some z := ⟨_, List.getElem?_eq_getElem (by have := HN.out; omega)⟩
      have hz := side_in a b z (by have := List.mem_of_getElem? ht; rw [HS.out] at this; exact this)
      obtain ⟨bk, o, rfl, hbk, hc⟩ := (HR.out.below HB.out).get k z ht
      obtain ⟨zx, zy⟩ := z
      cases zy with
      | none =>
        cases zx with
        | none => exact absurd hz.1 (by simp)
        | some x =>
          obtain ⟨xp, xk, xm, xt, xb⟩ := x
          have c0 : wr.cell? ⟨bk, o + k * 14, none⟩ = some (.string xp) := hc 0 _ rfl
          have c1 : wr.cell? ⟨bk, o + k * 14 + 1, none⟩ = some (.int .i64 xk) := hc 1 _ rfl
          have c2 : wr.cell? ⟨bk, o + k * 14 + 2, none⟩ = some (.int .i64 xm) := hc 2 _ rfl
          have c3 : wr.cell? ⟨bk, o + k * 14 + 3, none⟩ = some (.int .i64 xt) := hc 3 _ rfl
          have c4 : wr.cell? ⟨bk, o + k * 14 + 4, none⟩ = some (.string xb) := hc 4 _ rfl
          have c5 : wr.cell? ⟨bk, o + k * 14 + 5, none⟩ = some (.string ⟨#[]⟩) := hc 5 _ rfl
          have c6 : wr.cell? ⟨bk, o + k * 14 + 6, none⟩ = some (.bool false) := hc 6 _ rfl
          have c7 : wr.cell? ⟨bk, o + k * 14 + 7, none⟩ = some (.string ⟨#[]⟩) := hc 7 _ rfl
          have c8 : wr.cell? ⟨bk, o + k * 14 + 8, none⟩ = some (.int .i64 0) := hc 8 _ rfl
          have c9 : wr.cell? ⟨bk, o + k * 14 + 9, none⟩ = some (.int .i64 0) := hc 9 _ rfl
          have c10 : wr.cell? ⟨bk, o + k * 14 + 10, none⟩ = some (.int .i64 0) := hc 10 _ rfl
          have c11 : wr.cell? ⟨bk, o + k * 14 + 11, none⟩ = some (.string ⟨#[]⟩) := hc 11 _ rfl
          have c12 : wr.cell? ⟨bk, o + k * 14 + 12, none⟩ = some (.bool true) := hc 12 _ rfl
          have c13 : wr.cell? ⟨bk, o + k * 14 + 13, none⟩ = some (.bool false) := hc 13 _ rfl
          clear hc
          obtain ⟨s2, W6, hr6, ho6, hg6⟩ := more_ai w4.heap.size u8 ((S.take k).filterMap tA) (⟨xp, xk, xm, xt, xb⟩ : Im) ((wr.alloc (.cells #[.string xp, .int .i64 xk, .int .i64 xm, .int .i64 xt, .string xb, .string ⟨#[]⟩, .bool false, .string ⟨#[]⟩, .int .i64 0, .int .i64 0, .int .i64 0, .string ⟨#[]⟩, .bool true, .bool false] 70)).alloc (.cells #[.string xp, .int .i64 xk, .int .i64 xm, .int .i64 xt, .string xb] 27)) ((HO.out.alloc _).alloc _) (wr.heap.size + 1) (by rw [show wr.heap.size + 1 = (wr.alloc (.cells #[.string xp, .int .i64 xk, .int .i64 xm, .int .i64 xt, .string xb, .string ⟨#[]⟩, .bool false, .string ⟨#[]⟩, .int .i64 0, .int .i64 0, .int .i64 0, .string ⟨#[]⟩, .bool true, .bool false] 70)).heap.size from by simp]; exact heap_alloc_new _ _) (by have h1 := List.length_filterMap_le tA (S.take k); rw [List.length_take] at h1; have := HS3.out; have := HN.out; omega) (by have := HB.out.size; simp; omega)
          have HO6 : Hid (W6.ownsRow w4.heap.size 27 5 s2 ((S.take (k + 1)).filterMap tA).length (rowR imC ((S.take (k + 1)).filterMap tA))) := by
            rw [told_step ht, show tA (some ⟨xp, xk, xm, xt, xb⟩, none) = some (⟨xp, xk, xm, xt, xb⟩ : Im) from by rfl, Option.toList_some]; exact ho6
          have HB6 : Hid (Below w4.heap.size w4 W6) := (((HB.out.alloc HB.out.size _).alloc (by have := HB.out.size; simp; omega) _)).grown hg6 (by have := HB.out.size; simp; omega) fun g hg => (HO.out.lt g hg).1
          clear ho6 hg6 ht
          go_wp2_with (at_builtin; refine wpL_append_run rfl (.tmp 33) (.tmp 36) 22 22 rfl rfl _ _ s2 W6 rfl rfl hr6 ?_)
          clear hr6 c0 c1 c2 c3 c4 c5 c6 c7 c8 c9 c10 c11 c12 c13
          go_roundw
          case measure => simp only [intOf]; omega
          case rel => exact ⟨k + 1, by omega, by go_num, HO6, HB6⟩
      | some y =>
        obtain ⟨yp, yg, ⟨yi, yk, ym, yt, yb⟩⟩ := y
        cases zx with
        | none =>
          cases yg with
          | true =>
            have c0 : wr.cell? ⟨bk, o + k * 14, none⟩ = some (.string ⟨#[]⟩) := hc 0 _ rfl
            have c1 : wr.cell? ⟨bk, o + k * 14 + 1, none⟩ = some (.int .i64 0) := hc 1 _ rfl
            have c2 : wr.cell? ⟨bk, o + k * 14 + 2, none⟩ = some (.int .i64 0) := hc 2 _ rfl
            have c3 : wr.cell? ⟨bk, o + k * 14 + 3, none⟩ = some (.int .i64 0) := hc 3 _ rfl
            have c4 : wr.cell? ⟨bk, o + k * 14 + 4, none⟩ = some (.string ⟨#[]⟩) := hc 4 _ rfl
            have c5 : wr.cell? ⟨bk, o + k * 14 + 5, none⟩ = some (.string yp) := hc 5 _ rfl
            have c6 : wr.cell? ⟨bk, o + k * 14 + 6, none⟩ = some (.bool true) := hc 6 _ rfl
            have c7 : wr.cell? ⟨bk, o + k * 14 + 7, none⟩ = some (.string yi) := hc 7 _ rfl
            have c8 : wr.cell? ⟨bk, o + k * 14 + 8, none⟩ = some (.int .i64 yk) := hc 8 _ rfl
            have c9 : wr.cell? ⟨bk, o + k * 14 + 9, none⟩ = some (.int .i64 ym) := hc 9 _ rfl
            have c10 : wr.cell? ⟨bk, o + k * 14 + 10, none⟩ = some (.int .i64 yt) := hc 10 _ rfl
            have c11 : wr.cell? ⟨bk, o + k * 14 + 11, none⟩ = some (.string yb) := hc 11 _ rfl
            have c12 : wr.cell? ⟨bk, o + k * 14 + 12, none⟩ = some (.bool false) := hc 12 _ rfl
            have c13 : wr.cell? ⟨bk, o + k * 14 + 13, none⟩ = some (.bool true) := hc 13 _ rfl
            clear hc
            have HO6 : Hid (wr.ownsRow w4.heap.size 27 5 u8 ((S.take (k + 1)).filterMap tA).length (rowR imC ((S.take (k + 1)).filterMap tA))) := by
              rw [told_step ht, show tA (none, some ⟨yp, true, ⟨yi, yk, ym, yt, yb⟩⟩) = none from rfl, Option.toList_none, List.append_nil]; exact HO.out
            have HB6 : Hid (Below w4.heap.size w4 (wr.alloc (.cells #[.string ⟨#[]⟩, .int .i64 0, .int .i64 0, .int .i64 0, .string ⟨#[]⟩, .string yp, .bool true, .string yi, .int .i64 yk, .int .i64 ym, .int .i64 yt, .string yb, .bool false, .bool true] 70))) := HB.out.alloc HB.out.size _
            have HO7 : Hid ((wr.alloc (.cells #[.string ⟨#[]⟩, .int .i64 0, .int .i64 0, .int .i64 0, .string ⟨#[]⟩, .string yp, .bool true, .string yi, .int .i64 yk, .int .i64 ym, .int .i64 yt, .string yb, .bool false, .bool true] 70)).ownsRow w4.heap.size 27 5 u8 ((S.take (k + 1)).filterMap tA).length (rowR imC ((S.take (k + 1)).filterMap tA))) := HO6.out.alloc _
            clear ht HO6
            go_wp2_with fail
            clear c0 c1 c2 c3 c4 c5 c6 c7 c8 c9 c10 c11 c12 c13
            go_roundw
            case measure => simp only [intOf]; omega
            case rel => exact ⟨k + 1, by omega, by go_num, HO7, HB6⟩
          | false =>
            have c0 : wr.cell? ⟨bk, o + k * 14, none⟩ = some (.string ⟨#[]⟩) := hc 0 _ rfl
            have c1 : wr.cell? ⟨bk, o + k * 14 + 1, none⟩ = some (.int .i64 0) := hc 1 _ rfl
            have c2 : wr.cell? ⟨bk, o + k * 14 + 2, none⟩ = some (.int .i64 0) := hc 2 _ rfl
            have c3 : wr.cell? ⟨bk, o + k * 14 + 3, none⟩ = some (.int .i64 0) := hc 3 _ rfl
            have c4 : wr.cell? ⟨bk, o + k * 14 + 4, none⟩ = some (.string ⟨#[]⟩) := hc 4 _ rfl
            have c5 : wr.cell? ⟨bk, o + k * 14 + 5, none⟩ = some (.string yp) := hc 5 _ rfl
            have c6 : wr.cell? ⟨bk, o + k * 14 + 6, none⟩ = some (.bool false) := hc 6 _ rfl
            have c7 : wr.cell? ⟨bk, o + k * 14 + 7, none⟩ = some (.string yi) := hc 7 _ rfl
            have c8 : wr.cell? ⟨bk, o + k * 14 + 8, none⟩ = some (.int .i64 yk) := hc 8 _ rfl
            have c9 : wr.cell? ⟨bk, o + k * 14 + 9, none⟩ = some (.int .i64 ym) := hc 9 _ rfl
            have c10 : wr.cell? ⟨bk, o + k * 14 + 10, none⟩ = some (.int .i64 yt) := hc 10 _ rfl
            have c11 : wr.cell? ⟨bk, o + k * 14 + 11, none⟩ = some (.string yb) := hc 11 _ rfl
            have c12 : wr.cell? ⟨bk, o + k * 14 + 12, none⟩ = some (.bool false) := hc 12 _ rfl
            have c13 : wr.cell? ⟨bk, o + k * 14 + 13, none⟩ = some (.bool true) := hc 13 _ rfl
            clear hc
            obtain ⟨s2, W6, hr6, ho6, hg6⟩ := more_ai w4.heap.size u8 ((S.take k).filterMap tA) (⟨yi, yk, ym, yt, yb⟩ : Im) ((wr.alloc (.cells #[.string ⟨#[]⟩, .int .i64 0, .int .i64 0, .int .i64 0, .string ⟨#[]⟩, .string yp, .bool false, .string yi, .int .i64 yk, .int .i64 ym, .int .i64 yt, .string yb, .bool false, .bool true] 70)).alloc (.cells #[.string yi, .int .i64 yk, .int .i64 ym, .int .i64 yt, .string yb] 27)) ((HO.out.alloc _).alloc _) (wr.heap.size + 1) (by rw [show wr.heap.size + 1 = (wr.alloc (.cells #[.string ⟨#[]⟩, .int .i64 0, .int .i64 0, .int .i64 0, .string ⟨#[]⟩, .string yp, .bool false, .string yi, .int .i64 yk, .int .i64 ym, .int .i64 yt, .string yb, .bool false, .bool true] 70)).heap.size from by simp]; exact heap_alloc_new _ _) (by have h1 := List.length_filterMap_le tA (S.take k); rw [List.length_take] at h1; have := HS3.out; have := HN.out; omega) (by have := HB.out.size; simp; omega)
            have HO6 : Hid (W6.ownsRow w4.heap.size 27 5 s2 ((S.take (k + 1)).filterMap tA).length (rowR imC ((S.take (k + 1)).filterMap tA))) := by
              rw [told_step ht, show tA (none, some ⟨yp, false, ⟨yi, yk, ym, yt, yb⟩⟩) = some (⟨yi, yk, ym, yt, yb⟩ : Im) from by rfl, Option.toList_some]; exact ho6
            have HB6 : Hid (Below w4.heap.size w4 W6) := (((HB.out.alloc HB.out.size _).alloc (by have := HB.out.size; simp; omega) _)).grown hg6 (by have := HB.out.size; simp; omega) fun g hg => (HO.out.lt g hg).1
            clear ho6 hg6 ht
            go_wp2_with (at_builtin; refine wpL_append_run rfl (.tmp 42) (.tmp 46) 22 22 rfl rfl _ _ s2 W6 rfl rfl hr6 ?_)
            clear hr6 c0 c1 c2 c3 c4 c5 c6 c7 c8 c9 c10 c11 c12 c13
            go_roundw
            case measure => simp only [intOf]; omega
            case rel => exact ⟨k + 1, by omega, by go_num, HO6, HB6⟩
        | some x =>
          obtain ⟨xp, xk, xm, xt, xb⟩ := x
          cases yg with
          | true =>
            have c0 : wr.cell? ⟨bk, o + k * 14, none⟩ = some (.string xp) := hc 0 _ rfl
            have c1 : wr.cell? ⟨bk, o + k * 14 + 1, none⟩ = some (.int .i64 xk) := hc 1 _ rfl
            have c2 : wr.cell? ⟨bk, o + k * 14 + 2, none⟩ = some (.int .i64 xm) := hc 2 _ rfl
            have c3 : wr.cell? ⟨bk, o + k * 14 + 3, none⟩ = some (.int .i64 xt) := hc 3 _ rfl
            have c4 : wr.cell? ⟨bk, o + k * 14 + 4, none⟩ = some (.string xb) := hc 4 _ rfl
            have c5 : wr.cell? ⟨bk, o + k * 14 + 5, none⟩ = some (.string yp) := hc 5 _ rfl
            have c6 : wr.cell? ⟨bk, o + k * 14 + 6, none⟩ = some (.bool true) := hc 6 _ rfl
            have c7 : wr.cell? ⟨bk, o + k * 14 + 7, none⟩ = some (.string yi) := hc 7 _ rfl
            have c8 : wr.cell? ⟨bk, o + k * 14 + 8, none⟩ = some (.int .i64 yk) := hc 8 _ rfl
            have c9 : wr.cell? ⟨bk, o + k * 14 + 9, none⟩ = some (.int .i64 ym) := hc 9 _ rfl
            have c10 : wr.cell? ⟨bk, o + k * 14 + 10, none⟩ = some (.int .i64 yt) := hc 10 _ rfl
            have c11 : wr.cell? ⟨bk, o + k * 14 + 11, none⟩ = some (.string yb) := hc 11 _ rfl
            have c12 : wr.cell? ⟨bk, o + k * 14 + 12, none⟩ = some (.bool true) := hc 12 _ rfl
            have c13 : wr.cell? ⟨bk, o + k * 14 + 13, none⟩ = some (.bool true) := hc 13 _ rfl
            clear hc
            have HO6 : Hid (wr.ownsRow w4.heap.size 27 5 u8 ((S.take (k + 1)).filterMap tA).length (rowR imC ((S.take (k + 1)).filterMap tA))) := by
              rw [told_step ht, show tA (some ⟨xp, xk, xm, xt, xb⟩, some ⟨yp, true, ⟨yi, yk, ym, yt, yb⟩⟩) = none from rfl, Option.toList_none, List.append_nil]; exact HO.out
            have HB6 : Hid (Below w4.heap.size w4 (wr.alloc (.cells #[.string xp, .int .i64 xk, .int .i64 xm, .int .i64 xt, .string xb, .string yp, .bool true, .string yi, .int .i64 yk, .int .i64 ym, .int .i64 yt, .string yb, .bool true, .bool true] 70))) := HB.out.alloc HB.out.size _
            have HO7 : Hid ((wr.alloc (.cells #[.string xp, .int .i64 xk, .int .i64 xm, .int .i64 xt, .string xb, .string yp, .bool true, .string yi, .int .i64 yk, .int .i64 ym, .int .i64 yt, .string yb, .bool true, .bool true] 70)).ownsRow w4.heap.size 27 5 u8 ((S.take (k + 1)).filterMap tA).length (rowR imC ((S.take (k + 1)).filterMap tA))) := HO6.out.alloc _
            clear ht HO6
            go_wp2_with fail
            clear c0 c1 c2 c3 c4 c5 c6 c7 c8 c9 c10 c11 c12 c13
            go_roundw
            case measure => simp only [intOf]; omega
            case rel => exact ⟨k + 1, by omega, by go_num, HO7, HB6⟩
          | false =>
            have c0 : wr.cell? ⟨bk, o + k * 14, none⟩ = some (.string xp) := hc 0 _ rfl
            have c1 : wr.cell? ⟨bk, o + k * 14 + 1, none⟩ = some (.int .i64 xk) := hc 1 _ rfl
            have c2 : wr.cell? ⟨bk, o + k * 14 + 2, none⟩ = some (.int .i64 xm) := hc 2 _ rfl
            have c3 : wr.cell? ⟨bk, o + k * 14 + 3, none⟩ = some (.int .i64 xt) := hc 3 _ rfl
            have c4 : wr.cell? ⟨bk, o + k * 14 + 4, none⟩ = some (.string xb) := hc 4 _ rfl
            have c5 : wr.cell? ⟨bk, o + k * 14 + 5, none⟩ = some (.string yp) := hc 5 _ rfl
            have c6 : wr.cell? ⟨bk, o + k * 14 + 6, none⟩ = some (.bool false) := hc 6 _ rfl
            have c7 : wr.cell? ⟨bk, o + k * 14 + 7, none⟩ = some (.string yi) := hc 7 _ rfl
            have c8 : wr.cell? ⟨bk, o + k * 14 + 8, none⟩ = some (.int .i64 yk) := hc 8 _ rfl
            have c9 : wr.cell? ⟨bk, o + k * 14 + 9, none⟩ = some (.int .i64 ym) := hc 9 _ rfl
            have c10 : wr.cell? ⟨bk, o + k * 14 + 10, none⟩ = some (.int .i64 yt) := hc 10 _ rfl
            have c11 : wr.cell? ⟨bk, o + k * 14 + 11, none⟩ = some (.string yb) := hc 11 _ rfl
            have c12 : wr.cell? ⟨bk, o + k * 14 + 12, none⟩ = some (.bool true) := hc 12 _ rfl
            have c13 : wr.cell? ⟨bk, o + k * 14 + 13, none⟩ = some (.bool true) := hc 13 _ rfl
            clear hc
            obtain ⟨s2, W6, hr6, ho6, hg6⟩ := more_ai w4.heap.size u8 ((S.take k).filterMap tA) (⟨yi, yk, ym, yt, yb⟩ : Im) ((wr.alloc (.cells #[.string xp, .int .i64 xk, .int .i64 xm, .int .i64 xt, .string xb, .string yp, .bool false, .string yi, .int .i64 yk, .int .i64 ym, .int .i64 yt, .string yb, .bool true, .bool true] 70)).alloc (.cells #[.string yi, .int .i64 yk, .int .i64 ym, .int .i64 yt, .string yb] 27)) ((HO.out.alloc _).alloc _) (wr.heap.size + 1) (by rw [show wr.heap.size + 1 = (wr.alloc (.cells #[.string xp, .int .i64 xk, .int .i64 xm, .int .i64 xt, .string xb, .string yp, .bool false, .string yi, .int .i64 yk, .int .i64 ym, .int .i64 yt, .string yb, .bool true, .bool true] 70)).heap.size from by simp]; exact heap_alloc_new _ _) (by have h1 := List.length_filterMap_le tA (S.take k); rw [List.length_take] at h1; have := HS3.out; have := HN.out; omega) (by have := HB.out.size; simp; omega)
            have HO6 : Hid (W6.ownsRow w4.heap.size 27 5 s2 ((S.take (k + 1)).filterMap tA).length (rowR imC ((S.take (k + 1)).filterMap tA))) := by
              rw [told_step ht, show tA (some ⟨xp, xk, xm, xt, xb⟩, some ⟨yp, false, ⟨yi, yk, ym, yt, yb⟩⟩) = some (⟨yi, yk, ym, yt, yb⟩ : Im) from by rfl, Option.toList_some]; exact ho6
            have HB6 : Hid (Below w4.heap.size w4 W6) := (((HB.out.alloc HB.out.size _).alloc (by have := HB.out.size; simp; omega) _)).grown hg6 (by have := HB.out.size; simp; omega) fun g hg => (HO.out.lt g hg).1
            clear ho6 hg6 ht
            go_wp2_with (at_builtin; refine wpL_append_run rfl (.tmp 42) (.tmp 46) 22 22 rfl rfl _ _ s2 W6 rfl rfl hr6 ?_)
            clear hr6 c0 c1 c2 c3 c4 c5 c6 c7 c8 c9 c10 c11 c12 c13
            go_roundw
            case measure => simp only [intOf]; omega
            case rel => exact ⟨k + 1, by omega, by go_num, HO6, HB6⟩
    · obtain rfl : k = N := by omega
      have HO1 : Hid (wr.ownsRow w4.heap.size 27 5 u8 (S.filterMap tA).length (rowR imC (S.filterMap tA))) := by
        have h := HO.out
        rw [List.take_of_length_le (by have := HN.out; omega)] at h
        exact h
      have HBw : Hid (Below w.heap.size w wr) := HB4.out.trans (HB.out.mono HB4.out.size)
      have HLn : Hid ((S.filterMap tA).length ≤ 1000) := Nat.le_trans (List.length_filterMap_le _ _) HS3.out
      clear HO HB
      have HK : Hid (∀ x ∈ S.filterMap tA, x.Ok) := fun q hq => by
        obtain ⟨⟨zx, zy⟩, hz, e⟩ := List.mem_filterMap.1 hq
        have hzz := side_in a b _ (by rw [HS.out] at hz; exact hz)
        cases zy with
        | none => exact HOa.out q (hzz.2.1 q e)
        | some y =>
          have hy := HOb.out y (hzz.2.2 y rfl)
          unfold tA at e
          dsimp only at e
          split at e
          · cases e
          · cases e; exact hy.item
      have HAp : Hid (Dl.appL (its a) (edl b) = its (S.filterMap tA)) := by
        have h := app_told HEA0.out HEB0.out
        show _ = _
        rw [HS.out]
        exact h
      have HR3 : Hid (RP = if Wk.world (its (S.filterMap tA)) ≠ 0 then ([], Wk.world (its (S.filterMap tA))) else (its (S.filterMap tA), 0)) := by
        show _ = _
        rw [HP.out, if_neg (fun q => q HEA0.out), if_neg (fun q => q HEB0.out), HAp.out]
      have hwc := wcheck_any u8 (S.filterMap tA) wr (Rx.of_own imC_length HO1.out) (by have := HLn.out; omega) HK.out (HT.out.below HBw.out)
      obtain ⟨EC, hEC⟩ : ∃ EC, EC = Wk.world (its (S.filterMap tA)) := ⟨_, rfl⟩
      rw [← hEC] at hwc HR3
      have HEC : Hid (EC = Wk.world (its (S.filterMap tA))) := hEC
      clear HP hEC
      go_wp2_with fail
      refine hwc.mono ?_
      rintro e w5 ⟨rfl, b5⟩
      have HB5 : Hid (Below w.heap.size w w5) := HBw.out.trans (b5.mono HBw.out.size)
      have HO5 : Hid (w5.ownsRow w4.heap.size 27 5 u8 (S.filterMap tA).length (rowR imC (S.filterMap tA))) := own_below HO1.out b5
      clear hwc b5 HO1
      by_cases c3 : EC = 0
      case neg =>
        have hne : (EC != 0) = true := by rw [bne_iff_ne]; exact c3
        have HRe : Hid (RP = ([], EC)) := by show _ = _; rw [HR3.out, if_pos c3]
        clear HR3
        go_wp2_with fail
        go_ret2
        exact ⟨_, [], by rw [HRe.out]; rfl, World.ownsRow_nil _ _ _ _, by rw [HRe.out]; rfl, fun x hx => absurd hx List.not_mem_nil, HB5.out⟩
      have hne : (EC != 0) = false := by rw [c3]; rfl
      have HRe : Hid (RP = (its (S.filterMap tA), 0)) := by show _ = _; rw [HR3.out, if_neg (fun q => q c3)]
      have hown := ownItems_any u8 (S.filterMap tA) w5 _ HO5.out HK.out (by have := HLn.out; omega)
      clear HR3 c3
      go_wp2_with fail
      refine hown.mono ?_
      rintro e w6 ⟨rfl, b6⟩
      have HB6 : Hid (Below w.heap.size w w6) := HB5.out.trans (b6.mono HB5.out.size)
      have HO6 : Hid (w6.ownsRow w.heap.size 27 5 u8 (S.filterMap tA).length (rowR imC (S.filterMap tA))) := own_lower (own_below HO5.out b6) HB4.out.size
      clear hown b6
      go_wp2_with fail
      go_ret2
      exact ⟨_, S.filterMap tA, by rw [HRe.out]; rfl, HO6.out, by rw [HRe.out], HK.out, HB6.out⟩
end Go.Proofs.YthpcbbkpjggjbaaGreatDoor
namespace Go.Proofs.YthpcbbkpjggjbaaGreatDoor
open Go.RowKit
set_option maxRecDepth 4000
def smallM : List Im := [⟨⟨#[47, 100]⟩, 2, 0, 0, ⟨#[]⟩⟩, ⟨⟨#[47, 100, 47, 102]⟩, 1, 0, 0, ⟨#[48, 49, 50, 51, 52, 53, 54, 55, 56, 57, 97, 98, 99, 100, 101, 102, 48, 49, 50, 51, 52, 53, 54, 55, 56, 57, 97, 98, 99, 100, 101, 102, 33]⟩⟩]
theorem some_world (w : World) : Calls Tryz.prog 20 #[] w fun e w' => ∃ a c, e = .returned (.slice (some a) 2 c) ∧ Ims w' (.slice (some a) 2 c) smallM ∧ Below w.heap.size w w' := by
  have HB : Hid (∀ o, Below w.heap.size w (w.alloc o)) := fun o => (Below.refl _ w).alloc (Nat.le_refl _) o
  go_enter Tryz.func20, Tryz.ntmps20
  go_wp2_with fail
  go_ret
  refine ⟨_, _, rfl, ?_, HB.out _⟩
  refine Rx.of_own (base := w.heap.size) (T := 27) imC_length ⟨by rfl, .inr ⟨w.heap.size, 2, _, rfl, Nat.le_refl _, heap_alloc_new w _, Nat.le_refl _, by unfold maxLen; decide, rfl, rfl⟩⟩
end Go.Proofs.YthpcbbkpjggjbaaGreatDoor
namespace Go.Proofs.YthpcbbkpjggjbaaGreatDoor
open Go.RowKit
set_option maxRecDepth 4000
theorem fields_ed : ∃ f0 f1 f2, (Tryz.prog.fieldsOf 30).toList = [f0, f1, f2] ∧ f0.type = 9 ∧ f0.offset = 0 ∧ f0.name ≠ "_" ∧ f1.type = 4 ∧ f1.offset = 1 ∧ f1.name ≠ "_" ∧ f2.type = 27 ∧ f2.offset = 2 ∧ f2.name ≠ "_" := by
  rw [show (Tryz.prog.fieldsOf 30) = _ from by unfold Program.fieldsOf; rw [Tryz.underlying30]]
  exact ⟨_, _, _, rfl, rfl, rfl, by decide, rfl, rfl, by decide, rfl, rfl, by decide⟩
def emSame (a b : Em) : Bool := (a.path.toList == b.path.toList) && ((a.gone == b.gone) && (imSame a.item b.item && true))
theorem emSame_iff {a b : Em} : emSame a b = true ↔ a = b := by
  constructor
  · intro h
    simp only [emSame, Bool.and_eq_true, beq_iff_eq, Lib.toList_data] at h
    obtain ⟨h0, h1, h2, _⟩ := h
    obtain ⟨p, g, i⟩ := a
    obtain ⟨p', g', i'⟩ := b
    simp only at h0 h1 h2
    rw [ba_inj h0, h1, imSame_iff.1 h2]
  · rintro rfl
    simp only [emSame, imSame_iff.2 rfl, beq_self_eq_true, Bool.and_self]
theorem ed_cmp (W : World) (a b : Em) : (Op.equalIn 10000 30 (.agg #[.string a.path, .bool a.gone, .string a.item.path, .int .i64 a.item.kind, .int .i64 a.item.mode, .int .i64 a.item.time, .string a.item.bytes]) (.agg #[.string b.path, .bool b.gone, .string b.item.path, .int .i64 b.item.kind, .int .i64 b.item.mode, .int .i64 b.item.time, .string b.item.bytes])).run Tryz.prog W = .ok (emSame a b) W := by
  have hp : Tryz.prog.stoodInHeld 30 = false := by kernel_rfl
  have hf : Tryz.prog.underlying 30 = some (.struct (Tryz.prog.fieldsOf 30)) := by kernel_rfl
  obtain ⟨f0, f1, f2, hfs, t0, o0, n0, t1, o1, n1, t2, o2, n2⟩ := fields_ed
  have hs : ∀ s t : ByteArray, (Op.equalIn 9999 9 (.string s) (.string t)).run Tryz.prog W = .ok (s.toList == t.toList) W := fun s t => run_equalIn_string (P := Tryz.prog) W 9998 9 s t (by kernel_rfl)
  have hb : ∀ x y : Bool, (Op.equalIn 9999 4 (.bool x) (.bool y)).run Tryz.prog W = .ok (x == y) W := fun x y => run_equalIn_bool (P := Tryz.prog) (w := W) 9998 4 x y (by kernel_rfl)
  rw [run_equalIn_struct W 9999 30 _ _ hf hp, hfs]
  refine eqf_cons W 9999 _ _ f0 _ (.string a.path) (.string b.path) _ _ n0 (by rw [t0, o0]; simp [part, go_sem]) (by rw [t0, o0]; simp [part, go_sem]) (by rw [t0]; exact hs _ _) ?_
  refine eqf_cons W 9999 _ _ f1 _ (.bool a.gone) (.bool b.gone) _ _ n1 (by rw [t1, o1]; simp [part, go_sem]) (by rw [t1, o1]; simp [part, go_sem]) (by rw [t1]; exact hb _ _) ?_
  refine eqf_cons W 9999 _ _ f2 _ (imV a.item) (imV b.item) _ _ n2 (by rw [t2, o2]; simp [part, go_sem]) (by rw [t2, o2]; simp [part, go_sem]) (by rw [t2]; exact it_cmp_at 9997 W _ _) ?_
  exact eqf_nil W 9999 _ _
set_option maxHeartbeats 2000000 in
theorem equal_eds (v1 v2 : Value) (l m : List Em) (w : World) (h1 : Eds w v1 l) (h2 : Eds w v2 m) (hl : l.length ≤ 140737488351232) :
    Calls Tryz.prog 18 #[v1, v2] w fun e w' => ∃ b : Bool, e = .returned (.bool b) ∧ (b = true ↔ l = m) ∧ Below w.heap.size w w' := by
  obtain ⟨a1, c1, rfl, j1, j2⟩ := h1.slice
  obtain ⟨a2, c2, rfl, j3, j4⟩ := h2.slice
  clear j1 j2 j3 j4
  obtain ⟨n1, hn1⟩ : ∃ n, n = l.length := ⟨_, rfl⟩
  obtain ⟨n2, hn2⟩ : ∃ n, n = m.length := ⟨_, rfl⟩
  have HN1 : Hid (n1 = l.length) := hn1
  have HN2 : Hid (n2 = m.length) := hn2
  rw [← hn1] at h1 hl ⊢
  rw [← hn2] at h2 ⊢
  clear hn1 hn2
  by_cases hq : n1 = n2
  case neg =>
    have hb : ((n1 : Int) != (n2 : Int)) = true := by rw [bne_iff_ne]; omega
    have HF : Hid (l ≠ m) := by rintro rfl; exact hq (HN1.out.trans HN2.out.symm)
    clear hq h1 h2
    go_enter Tryz.func18, Tryz.ntmps18
    go_wp2_with fail
    go_ret
    exact ⟨false, rfl, ⟨fun q => absurd q (by decide), fun q => absurd q HF.out⟩, Below.refl _ _⟩
  subst hq
  have hb : ((n1 : Int) != (n1 : Int)) = false := by simp
  go_enter Tryz.func18, Tryz.ntmps18
  go_wp2_with fail
  clear hb
  go_loopw [13] (fun i wr => ∃ k : Nat, k ≤ n1 ∧ i = .int .i64 k ∧ l.take k = m.take k ∧ Below w.heap.size w wr) (fun i _ => n1 - (intOf i).toNat)
  case atStart => exact ⟨0, by omega, rfl, rfl, Below.refl _ _⟩
  case round =>
    obtain ⟨k, hk, rfl, hpre, hbel⟩ := hrel
    have HP : Hid (l.take k = m.take k) := hpre
    clear hpre
    by_cases hlt : k < n1
    · obtain ⟨t, ht⟩ : ∃ t, l[k]? = some t := ⟨_, List.getElem?_eq_getElem (by have := HN1.out; omega)⟩
      obtain ⟨u, hu⟩ : ∃ u, m[k]? = some u := ⟨_, List.getElem?_eq_getElem (by have := HN2.out; omega)⟩
      obtain ⟨bk, o, rfl, hbk, c0, c1, c2, c3, c4, c5, c6⟩ := (h1.below hbel).edit k t ht
      obtain ⟨bk', o', rfl, hbk', d0, d1, d2, d3, d4, d5, d6⟩ := (h2.below hbel).edit k u hu
      have HT : Hid (l[k]? = some t ∧ m[k]? = some u) := ⟨ht, hu⟩
      clear h1 h2 ht hu
      have x0 : ∀ X : Since wr.heap.size wr, X.val.cell? ⟨bk, o + k * 7, none⟩ = some (.string t.path) := fun X => (X.property.cell (p := ⟨bk, o + k * 7, none⟩) hbk).trans c0
      have x1 : ∀ X : Since wr.heap.size wr, X.val.cell? ⟨bk, o + k * 7 + 1, none⟩ = some (.bool t.gone) := fun X => (X.property.cell (p := ⟨bk, o + k * 7 + 1, none⟩) hbk).trans c1
      have x2 : ∀ X : Since wr.heap.size wr, X.val.cell? ⟨bk, o + k * 7 + 2, none⟩ = some (.string t.item.path) := fun X => (X.property.cell (p := ⟨bk, o + k * 7 + 2, none⟩) hbk).trans c2
      have x3 : ∀ X : Since wr.heap.size wr, X.val.cell? ⟨bk, o + k * 7 + 3, none⟩ = some (.int .i64 t.item.kind) := fun X => (X.property.cell (p := ⟨bk, o + k * 7 + 3, none⟩) hbk).trans c3
      have x4 : ∀ X : Since wr.heap.size wr, X.val.cell? ⟨bk, o + k * 7 + 4, none⟩ = some (.int .i64 t.item.mode) := fun X => (X.property.cell (p := ⟨bk, o + k * 7 + 4, none⟩) hbk).trans c4
      have x5 : ∀ X : Since wr.heap.size wr, X.val.cell? ⟨bk, o + k * 7 + 5, none⟩ = some (.int .i64 t.item.time) := fun X => (X.property.cell (p := ⟨bk, o + k * 7 + 5, none⟩) hbk).trans c5
      have x6 : ∀ X : Since wr.heap.size wr, X.val.cell? ⟨bk, o + k * 7 + 6, none⟩ = some (.string t.item.bytes) := fun X => (X.property.cell (p := ⟨bk, o + k * 7 + 6, none⟩) hbk).trans c6
      have y0 : ∀ X : Since wr.heap.size wr, X.val.cell? ⟨bk', o' + k * 7, none⟩ = some (.string u.path) := fun X => (X.property.cell (p := ⟨bk', o' + k * 7, none⟩) hbk').trans d0
      have y1 : ∀ X : Since wr.heap.size wr, X.val.cell? ⟨bk', o' + k * 7 + 1, none⟩ = some (.bool u.gone) := fun X => (X.property.cell (p := ⟨bk', o' + k * 7 + 1, none⟩) hbk').trans d1
      have y2 : ∀ X : Since wr.heap.size wr, X.val.cell? ⟨bk', o' + k * 7 + 2, none⟩ = some (.string u.item.path) := fun X => (X.property.cell (p := ⟨bk', o' + k * 7 + 2, none⟩) hbk').trans d2
      have y3 : ∀ X : Since wr.heap.size wr, X.val.cell? ⟨bk', o' + k * 7 + 3, none⟩ = some (.int .i64 u.item.kind) := fun X => (X.property.cell (p := ⟨bk', o' + k * 7 + 3, none⟩) hbk').trans d3
      have y4 : ∀ X : Since wr.heap.size wr, X.val.cell? ⟨bk', o' + k * 7 + 4, none⟩ = some (.int .i64 u.item.mode) := fun X => (X.property.cell (p := ⟨bk', o' + k * 7 + 4, none⟩) hbk').trans d4
      have y5 : ∀ X : Since wr.heap.size wr, X.val.cell? ⟨bk', o' + k * 7 + 5, none⟩ = some (.int .i64 u.item.time) := fun X => (X.property.cell (p := ⟨bk', o' + k * 7 + 5, none⟩) hbk').trans d5
      have y6 : ∀ X : Since wr.heap.size wr, X.val.cell? ⟨bk', o' + k * 7 + 6, none⟩ = some (.string u.item.bytes) := fun X => (X.property.cell (p := ⟨bk', o' + k * 7 + 6, none⟩) hbk').trans d6
      clear c0 c1 c2 c3 c4 c5 c6 d0 d1 d2 d3 d4 d5 d6
      have heq := fun W => ed_cmp W t u
      have HS : Hid (emSame t u = true ↔ t = u) := emSame_iff
      have hne : Nonempty (Since wr.heap.size wr) := ⟨⟨wr, Below.refl _ _⟩⟩
      generalize emSame t u = S at *
      cases S
      · go_wp2_with fail
        refine wp_region_since (B := wr.heap.size) (W0 := wr) (by kernel_rfl) (by kernel_rfl) (Below.refl _ _) ?_
        repeat (go_big_quiet_step (fail))
        refine wpQuiet_nil ?_
        rintro w7 ⟨U, rfl⟩
        have hU := U.property
        have HB3 : Hid (Below w.heap.size w U.val) := hbel.trans (hU.mono hbel.size)
        generalize U.val = w7 at *
        clear hU hbel x0 x1 x2 x3 x4 x5 x6 y0 y1 y2 y3 y4 y5 y6 heq hne
        go_wp2_with fail
        go_ret
        refine ⟨false, rfl, ⟨fun q => absurd q (by decide), ?_⟩, HB3.out⟩
        rintro rfl
        have := HT.out.1.symm.trans HT.out.2
        have := HS.out.2 (Option.some.inj this)
        cases this
      · go_wp2_with fail
        refine wp_region_since (B := wr.heap.size) (W0 := wr) (by kernel_rfl) (by kernel_rfl) (Below.refl _ _) ?_
        repeat (go_big_quiet_step (fail))
        refine wpQuiet_nil ?_
        rintro w7 ⟨U, rfl⟩
        have hU := U.property
        have HB3 : Hid (Below w.heap.size w U.val) := hbel.trans (hU.mono hbel.size)
        generalize U.val = w7 at *
        clear hU hbel x0 x1 x2 x3 x4 x5 x6 y0 y1 y2 y3 y4 y5 y6 heq hne
        go_wp2_with fail
        go_roundw
        case rel =>
          refine ⟨k + 1, by omega, by go_num, ?_, HB3.out⟩
          rw [List.take_add_one, List.take_add_one, HP.out, HT.out.1, HT.out.2, HS.out.1 (by first | exact trivial | rfl)]
        case measure => simp only [intOf]; omega
    · go_wp2_with fail
      go_ret
      refine ⟨true, rfl, ⟨fun _ => ?_, fun _ => rfl⟩, hbel⟩
      have h := HP.out
      have := HN1.out
      have := HN2.out
      rwa [List.take_of_length_le (by omega), List.take_of_length_le (by omega)] at h
end Go.Proofs.YthpcbbkpjggjbaaGreatDoor
namespace Go.Proofs.YthpcbbkpjggjbaaGreatDoor
open Go.RowKit
theorem ddiff_say {va vb : Value} {a b : List Im} {w : World} (ha : Ims w va a) (hb : Ims w vb b) (la : a.length ≤ 140737488351232) (lb : b.length ≤ 140737488351232) (oa : ∀ x ∈ a, x.Ok) (ob : ∀ x ∈ b, x.Ok) (hT : Tabs w) {D : List Dl.Ed} {E : Int} (hD : Dl.diff (its a) (its b) = (D, E)) :
    Calls Tryz.prog 7 #[va, vb] w fun e w' => ∃ sa sc l, e = .returned (.tuple #[.slice sa l.length sc, .int .i64 E]) ∧ w'.ownsRow w.heap.size 30 7 (.slice sa l.length sc) l.length (rowR emC l) ∧ edl l = D ∧ (∀ x ∈ l, x.Ok) ∧ Below w.heap.size w w' := by
  refine (ddiff_any va vb a b w ha hb la lb oa ob hT).mono ?_
  rintro e w' ⟨v, l, he, h1, h2, h3, h4⟩
  rw [hD] at he h2
  obtain ⟨sa, sc, rfl⟩ := own_form h1
  exact ⟨sa, sc, l, he, h1, h2, h3, h4⟩
theorem diff_err {a b : List Wk.It} {D : List Dl.Ed} {E : Int} (h : Dl.diff a b = (D, E)) : (E = 0 → Wk.world a = 0 ∧ Wk.world b = 0) ∧ (E ≠ 0 → D = [] ∧ ¬ (Wk.world a = 0 ∧ Wk.world b = 0)) := by
  unfold Dl.diff at h
  split at h
  · rename_i q
    cases h
    exact ⟨fun e => absurd e q, fun _ => ⟨rfl, fun ⟨k, _⟩ => q k⟩⟩
  · rename_i q
    split at h
    · rename_i p
      cases h
      exact ⟨fun e => absurd e p, fun _ => ⟨rfl, fun ⟨_, k⟩ => p k⟩⟩
    · rename_i p
      cases h
      exact ⟨fun _ => ⟨Decidable.not_not.mp q, Decidable.not_not.mp p⟩, fun e => absurd rfl e⟩
end Go.Proofs.YthpcbbkpjggjbaaGreatDoor
