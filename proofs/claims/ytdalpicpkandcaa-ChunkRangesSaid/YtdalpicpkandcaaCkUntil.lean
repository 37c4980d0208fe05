/-
  What Until of package chunk answers.
-/
import Derived.Test.YtdalpicpkandcaaCkEach
namespace Go.Proofs.Ytdalpicpkandcaa
open Go.RowKit Go.Shelf

attribute [local go_sem] Oper.semAt_some
/-- how far pieces go, from a on, that end within most -/
def Ck.until (most : Int) : Nat → List Ck.Bs → Nat
  | a, [] => a
  | a, p :: ps => if most < ((a + p.length : Nat) : Int) then a else Ck.until most (a + p.length) ps

theorem Ck.until_le (most : Int) (l : List Ck.Bs) : ∀ a, Ck.until most a l ≤ a + l.flatten.length := by
  induction l with
  | nil => intro a; simp [Ck.until]
  | cons p l ih =>
    intro a
    rw [Ck.until, List.flatten_cons, List.length_append]
    split
    · omega
    · have := ih (a + p.length); omega
theorem Ck.until_out {most : Int} {a : Nat} {p : Ck.Bs} {l : List Ck.Bs} (h : most < ((a + p.length : Nat) : Int)) : Ck.until most a (p :: l) = a := by rw [Ck.until, if_pos h]
theorem Ck.until_in {most : Int} {a : Nat} {p : Ck.Bs} {l : List Ck.Bs} (h : ¬ most < ((a + p.length : Nat) : Int)) : Ck.until most a (p :: l) = Ck.until most (a + p.length) l := by rw [Ck.until, if_neg h]

/-- between two rounds of the loop in Until -/
structure UnI (w : World) (most : Int) (L : List Ck.Bs) (l : List Ck.Bs) (V : World) : Prop where
  mo : Boxed V (w.heap.size + 1) 3 (.int .i64 most)
  en : Boxed V (w.heap.size + 1 + 1) 3 (.int .i64 (l.flatten.length : Nat))
  bel : Below w.heap.size w V
  un : ∀ rest, L = l ++ rest → Ck.until most 0 L = Ck.until most l.flatten.length rest

set_option maxRecDepth 100000 in
set_option maxHeartbeats 2000000 in
theorem until_ok (mn mx bt : Nat) (hO : OkCut mn mx bt) (s : ByteArray) (hs : s.size ≤ 4096) (most : Int) (w : World) (L : List Ck.Bs) (hL : L = Ck.cut (Ck.ends mn mx bt Rl.ofL) s.data.toList) (E : Nat) (hE : E = Ck.until most 0 L) :
    Calls Try.prog 19 #[cutV mn mx bt, .string s, .int .i64 most] w fun e w' => e = .returned (.tuple #[.string (s.extract 0 E), .int .i64 (E : Nat)]) ∧ Below w.heap.size w w' := by
  have hea := fun V => each_yes mn mx bt s V (sizeN_zero.2 ⟨hO, by omega⟩) hs
  have hjn : L.flatten.length = s.size := by rw [hL, Ck.cut_join, ← Lib.size_eq]
  have hEs : E ≤ s.size := by
    have := Ck.until_le most L 0
    omega
  have HE : Hid (E = Ck.until most 0 L) := hE
  clear hE
  unfold cutV at hea ⊢
  obtain ⟨W4, hW4⟩ : ∃ W4, W4 = ((w.alloc (Obj.cells #[Value.int IntKind.i64 mn, Value.int IntKind.i64 mx, Value.int IntKind.i64 bt] 23)).alloc (Obj.cells #[Value.int IntKind.i64 most] 3)).alloc (Obj.cells #[Value.int IntKind.i64 0] 3) := ⟨_, rfl⟩
  have HM4 : Hid (Boxed W4 (w.heap.size + 1) 3 (.int .i64 most)) := by
    rw [hW4]
    have := Boxed.new (w.alloc (Obj.cells #[Value.int IntKind.i64 mn, Value.int IntKind.i64 mx, Value.int IntKind.i64 bt] 23)) 3 (.int .i64 most)
    rw [World.size_alloc] at this
    exact this.alloc _
  have HE4 : Hid (Boxed W4 (w.heap.size + 1 + 1) 3 (.int .i64 0)) := by
    rw [hW4]
    have := Boxed.new ((w.alloc (Obj.cells #[Value.int IntKind.i64 mn, Value.int IntKind.i64 mx, Value.int IntKind.i64 bt] 23)).alloc (Obj.cells #[Value.int IntKind.i64 most] 3)) 3 (.int .i64 0)
    rwa [World.size_alloc, World.size_alloc] at this
  have HB4 : Hid (Below w.heap.size w W4) := by rw [hW4]; exact (((Below.refl _ w).alloc (Nat.le_refl _) _).alloc (by simp) _).alloc (by simp; omega) _
  have HZ4 : Hid (W4.heap.size = w.heap.size + 3) := by rw [hW4]; simp [Hid]
  refine (callsIn_wide (n := 9)).1 ?_
  refine callsIn_of_wp_marks Try.func19 rfl trivial ?_ rfl
  simp only [Try.ntmps19, List.size_toArray, List.length_cons, List.length_nil, Nat.reduceAdd, Nat.reduceSub, Array.replicate_succ, Array.replicate_zero, List.push_toArray, List.append_toArray, List.nil_append, List.cons_append]
  gi_wp2_with fail
  rw [← hW4]
  refine ⟨trivial, (callsIn_wide.2 (hea _)).mono ?_⟩
  rintro e w2 ⟨bc, rfl, hbc, hC2, hS2, hb2⟩
  have HS : Hid (w.heap.size + 3 ≤ bc ∧ bc + 1 < w2.heap.size) := ⟨by have := HZ4.out; omega, hS2.lt⟩
  have HI0 : Hid (UnI w most L [] w2) :=
    ⟨(Kept.of_below (p := fun _ => True) hb2).boxed trivial HM4.out, (Kept.of_below (p := fun _ => True) hb2).boxed trivial HE4.out, HB4.out.trans (hb2.mono HB4.out.size), fun rest h => by rw [h]; rfl⟩
  clear hbc hb2 hW4 HM4 HE4 HB4 HZ4 hea
  gi_wp2_with fail
  refine rf_outer (α := Nat × Ck.Bs) (m := 9) (gf := 36) (lb := #[.pointer (some ⟨bc, 0, none⟩), .pointer (some ⟨bc + 1, 0, none⟩)]) rfl (enters_of Try.func36 (by kernel_rfl) rfl)
    (encs := encP) (xs := Ck.withAt 0 L) (d := 6) (Kp := fun k => k = bc ∨ k = bc + 1)
    ?seq (by have z := HS.out; omega) (fun _ => rfl) (fun pre V => UnI w most L (pre.map (·.2)) V) (fun c _ V => c = .exit 0 ∧ Boxed V (w.heap.size + 1 + 1) 3 (.int .i64 (E : Nat)) ∧ Below w.heap.size w V) ?hI ?hIx HI0.out
    (fun x => { tmps := #[.agg #[.int .i64 mn, .int .i64 mx, .int .i64 bt], .string s, .int .i64 most, .pointer (some ⟨w.heap.size, 0, none⟩), undef, .pointer (some ⟨w.heap.size + 1, 0, none⟩), .string ⟨#[]⟩, .int .i64 0,
      .pointer (some ⟨w.heap.size + 1 + 1, 0, none⟩), .int .i64 (x.1 : Int), Sv x.2, .agg #[.int .i64 mn, .int .i64 mx, .int .i64 bt], .string s, .func (.func 36) #[] #[.pointer (some ⟨bc, 0, none⟩), .pointer (some ⟨bc + 1, 0, none⟩)],
      .int .i64 (x.1 : Int), Sv x.2, undef, undef, undef, undef, undef, undef, undef, undef, undef, undef, undef, undef, undef, undef, undef], defers := [] }) ?assign ?body ?done ?stop
  case seq =>
    intro W1 hb hz
    have hk : Kept (fun _ => True) w2 W1 := Kept.of_below hb
    rw [hL]
    obtain ⟨_, _, _, h4, h5⟩ := hO
    exact pieces1_all mn mx bt (by omega) (by omega) s hs W1 bc (bc + 1) (hk.cutAt trivial hC2) (hk.boxed trivial hS2)
  case hI =>
    rintro pre A V hA ⟨h1, h2, h3, h4⟩ hk
    have z := HS.out
    exact ⟨hk.boxed (by omega) h1, hk.boxed (by omega) h2, h3.trans (hk.below (by omega) (fun k hk => by omega)), h4⟩
  case hIx =>
    rintro c pre A V hA ⟨h1, h2, h3⟩ hk
    have z := HS.out
    exact ⟨h1, hk.boxed (by omega) h2, h3.trans (hk.below (by omega) (fun k hk => by omega))⟩
  case assign =>
    intro l2 x V K hK
    simp only [encP]
    gi_wp2_with fail
    exact hK
  case body =>
    rintro l2 pre ⟨at', p⟩ V rfl hV hpre hi
    obtain ⟨pb, hpb⟩ : ∃ pb : ByteArray, pb = ⟨p.toArray⟩ := ⟨_, rfl⟩
    have HP : Hid (pb.size = p.length) := by rw [hpb]; show _ = _; simp [ByteArray.size]
    have HAT : Hid (at' = (pre.map (·.2)).flatten.length) := by
      obtain ⟨post, hp⟩ := hpre
      have := Ck.withAt_next (l := L) (a := 0) (pre := pre) (x := (at', p)) (post := post) (by rw [← hp]; simp)
      show _ = _
      simpa using this
    obtain ⟨post, HLs⟩ : ∃ post, Hid (L = pre.map (·.2) ++ p :: post) := by
      obtain ⟨post, hp⟩ := hpre
      refine ⟨post.map (·.2), ?_⟩
      show _ = _
      rw [← Ck.withAt_snd L 0, ← hp]
      simp
    have hle : at' + pb.size ≤ 4096 := by
      have h1 := congrArg (fun l : List Ck.Bs => l.flatten.length) HLs.out
      simp only [List.flatten_append, List.flatten_cons, List.length_append] at h1
      rw [HAT.out, HP.out]
      omega
    have HI : Hid (UnI w most L (pre.map (·.2)) V) := hi
    have HPE : Hid ((pre ++ [(at', p)]).map (·.2) = pre.map (·.2) ++ [p]) := by show _ = _; simp
    have HLN : Hid ((at' : Int) + (pb.size : Int) = (((pre.map (·.2) ++ [p]).flatten.length : Nat) : Int)) := by
      show _ = _
      rw [HAT.out, HP.out]
      simp
    have hmc := hi.mo.cell
    have hec := hi.en.cell
    have hef := hi.en.frozen
    simp only [Sv, ← hpb]
    generalize pre.map (·.2) = l at *
    clear hpb hpre HI0 hC2 hS2 hi hjn hL hEs
    by_cases hm : most < (at' : Int) + (pb.size : Int)
    · have HU : Hid (E = l.flatten.length) := by
        show _ = _
        rw [HE.out, HI.out.un _ HLs.out]
        exact Ck.until_out (by have h1 := HAT.out; have h2 := HP.out; omega)
      clear HLN
      gi_wp2_with fail
      have hi := HI.out
      exact ⟨Kept.refl _ _, rfl, by rw [HU.out]; exact hi.en, hi.bel⟩
    · have HU : Hid (∀ rest, L = (l ++ [p]) ++ rest → Ck.until most 0 L = Ck.until most (l ++ [p]).flatten.length rest) := fun rest hr => by
        rw [HI.out.un (p :: rest) (by rw [hr]; simp), Ck.until_in (by have h1 := HAT.out; have h2 := HP.out; omega)]
        simp
      gi_wp2_with fail
      have hi := HI.out
      have z := HS.out
      have hvs := hi.bel.size
      refine ⟨(Kept.refl _ _).setCell (by dsimp only; omega) _, ?_⟩
      show UnI _ _ _ ((pre ++ [(at', p)]).map (·.2)) _
      rw [HPE.out]
      refine ⟨hi.mo.other (by omega) _, ?_, hi.bel.setCell (show w.heap.size ≤ w.heap.size + 1 + 1 by omega) _, HU.out⟩
      rw [← HLN.out]
      exact hi.en.set _
  case done =>
    intro V hV hi hK
    rw [Ck.withAt_snd] at hi
    have hun := hi.un [] (by simp)
    rw [← HE.out] at hun
    have hbe := hi.en
    rw [show L.flatten.length = E from hun.symm] at hbe
    have hbl := hi.bel
    clear hi hun hjn hL
    have HB : Hid (Below w.heap.size w V) := hbl
    have HK : Hid (V.heap[w2.heap.size]? = some (Obj.deferred (some []))) := hK
    have hec := hbe.cell
    have le := hbe.lt
    have d1 : ∀ X : Since V.heap.size V, X.val.cell? ⟨w.heap.size + 1 + 1, 0, none⟩ = some (.int .i64 (E : Int)) := fun X => (X.property.cell (p := ⟨w.heap.size + 1 + 1, 0, none⟩) le).trans hec
    have hne : Nonempty (Since V.heap.size V) := ⟨⟨V, Below.refl _ _⟩⟩
    have hcl := fun V => clone_any (s.extract 0 E) V (by rw [ByteArray.size_extract]; omega)
    clear hbl hK hbe hec le HI0 hC2 hS2
    gi_wp2_with fail
    refine wpIn_wide.2 ?_
    refine wp_region_since (B := V.heap.size) (W0 := V) (by kernel_rfl) (by kernel_rfl) (Below.refl _ _) ?_
    repeat (go_big_quiet_step (fail))
    go_big_quiet_step (exact quiet_since _ (hcl _))
    repeat (go_big_quiet_step (fail))
    refine wpQuiet_nil ?_
    rintro w7 ⟨U, rfl⟩
    have hU := U.property
    have hB7 := HB.out.trans (hU.mono HB.out.size)
    have hK7 : U.val.heap[w2.heap.size]? = some (Obj.deferred (some [])) := (hU.block _ (by omega)).trans HK.out
    have H7 : Hid (Below w.heap.size w U.val ∧ U.val.heap[w2.heap.size]? = some (Obj.deferred (some []))) := ⟨hB7, hK7⟩
    generalize U.val = w7 at *
    clear hU hB7 hK7 d1 hne hcl HB HK
    gi_wp2_with fail
    obtain ⟨h2, h3⟩ := H7.out
    refine ⟨by simp, .inl ⟨_, _, rfl, run_takeDeferred h3, ?_⟩⟩
    have z := HS.out
    exact ⟨_, results_tmp2 rfl _ _ _, rfl, h2.trans (((Kept.refl (fun k => k ≠ w2.heap.size) _).putObj (fun h => h rfl) _).below h2.size (fun k hk => by omega))⟩
  case stop =>
    rintro c pre V hV hpre ⟨rfl, hbe, hbl⟩ hK
    clear hpre hjn hL
    have HB : Hid (Below w.heap.size w V) := hbl
    have HK : Hid (V.heap[w2.heap.size]? = some (Obj.deferred (some []))) := hK
    have hec := hbe.cell
    have le := hbe.lt
    have d1 : ∀ X : Since V.heap.size V, X.val.cell? ⟨w.heap.size + 1 + 1, 0, none⟩ = some (.int .i64 (E : Int)) := fun X => (X.property.cell (p := ⟨w.heap.size + 1 + 1, 0, none⟩) le).trans hec
    have hne : Nonempty (Since V.heap.size V) := ⟨⟨V, Below.refl _ _⟩⟩
    have hcl := fun V => clone_any (s.extract 0 E) V (by rw [ByteArray.size_extract]; omega)
    clear hbl hK hbe hec le HI0 hC2 hS2
    gi_wp2_with fail
    refine wpIn_wide.2 ?_
    refine wp_region_since (B := V.heap.size) (W0 := V) (by kernel_rfl) (by kernel_rfl) (Below.refl _ _) ?_
    repeat (go_big_quiet_step (fail))
    go_big_quiet_step (exact quiet_since _ (hcl _))
    repeat (go_big_quiet_step (fail))
    refine wpQuiet_nil ?_
    rintro w7 ⟨U, rfl⟩
    have hU := U.property
    have hB7 := HB.out.trans (hU.mono HB.out.size)
    have hK7 : U.val.heap[w2.heap.size]? = some (Obj.deferred (some [])) := (hU.block _ (by omega)).trans HK.out
    have H7 : Hid (Below w.heap.size w U.val ∧ U.val.heap[w2.heap.size]? = some (Obj.deferred (some []))) := ⟨hB7, hK7⟩
    generalize U.val = w7 at *
    clear hU hB7 hK7 d1 hne hcl HB HK
    gi_wp2_with fail
    obtain ⟨h2, h3⟩ := H7.out
    refine ⟨by simp, .inl ⟨_, _, rfl, run_takeDeferred h3, ?_⟩⟩
    have z := HS.out
    exact ⟨_, results_tmp2 rfl _ _ _, rfl, h2.trans (((Kept.refl (fun k => k ≠ w2.heap.size) _).putObj (fun h => h rfl) _).below h2.size (fun k hk => by omega))⟩

set_option maxRecDepth 100000 in
set_option maxHeartbeats 2000000 in
theorem until_no (mn mx bt : Int) (s : ByteArray) (hO : sizeN mn mx bt s.size ≠ 0) (most : Int) (w : World) :
    Calls Try.prog 19 #[cutV mn mx bt, .string s, .int .i64 most] w fun e w' => e = .returned (.tuple #[.string ByteArray.empty, .int .i64 0]) ∧ Below w.heap.size w w' := by
  have hea := fun V => each_no mn mx bt s V hO
  unfold cutV at hea ⊢
  obtain ⟨W4, hW4⟩ : ∃ W4, W4 = ((w.alloc (Obj.cells #[Value.int IntKind.i64 mn, Value.int IntKind.i64 mx, Value.int IntKind.i64 bt] 23)).alloc (Obj.cells #[Value.int IntKind.i64 most] 3)).alloc (Obj.cells #[Value.int IntKind.i64 0] 3) := ⟨_, rfl⟩
  have HM4 : Hid (Boxed W4 (w.heap.size + 1) 3 (.int .i64 most)) := by
    rw [hW4]
    have := Boxed.new (w.alloc (Obj.cells #[Value.int IntKind.i64 mn, Value.int IntKind.i64 mx, Value.int IntKind.i64 bt] 23)) 3 (.int .i64 most)
    rw [World.size_alloc] at this
    exact this.alloc _
  have HE4 : Hid (Boxed W4 (w.heap.size + 1 + 1) 3 (.int .i64 0)) := by
    rw [hW4]
    have := Boxed.new ((w.alloc (Obj.cells #[Value.int IntKind.i64 mn, Value.int IntKind.i64 mx, Value.int IntKind.i64 bt] 23)).alloc (Obj.cells #[Value.int IntKind.i64 most] 3)) 3 (.int .i64 0)
    rwa [World.size_alloc, World.size_alloc] at this
  have HB4 : Hid (Below w.heap.size w W4) := by rw [hW4]; exact (((Below.refl _ w).alloc (Nat.le_refl _) _).alloc (by simp) _).alloc (by simp; omega) _
  have HZ4 : Hid (W4.heap.size = w.heap.size + 3) := by rw [hW4]; simp [Hid]
  refine (callsIn_wide (n := 9)).1 ?_
  refine callsIn_of_wp_marks Try.func19 rfl trivial ?_ rfl
  simp only [Try.ntmps19, List.size_toArray, List.length_cons, List.length_nil, Nat.reduceAdd, Nat.reduceSub, Array.replicate_succ, Array.replicate_zero, List.push_toArray, List.append_toArray, List.nil_append, List.cons_append]
  gi_wp2_with fail
  rw [← hW4]
  refine ⟨trivial, (callsIn_wide.2 (hea _)).mono ?_⟩
  rintro e w2 ⟨rfl, hb2⟩
  have HS : Hid (w.heap.size + 3 ≤ w2.heap.size) := by have h1 := HZ4.out; have h2 := hb2.size; show _ ≤ _; omega
  have HI0 : Hid (Boxed w2 (w.heap.size + 1 + 1) 3 (.int .i64 0) ∧ Below w.heap.size w w2) := ⟨(Kept.of_below (p := fun _ => True) hb2).boxed trivial HE4.out, HB4.out.trans (hb2.mono HB4.out.size)⟩
  clear hb2 hW4 HM4 HE4 HB4 HZ4 hea
  gi_wp2_with fail
  refine rf_outer (α := Nat × Ck.Bs) (m := 9) (gf := 28) (lb := #[]) rfl (enters_of Try.func28 (by kernel_rfl) rfl)
    (encs := encP) (xs := []) (d := 0) (Kp := fun _ => False)
    (fun W1 _ _ => each1_tells W1 _) (fun h => h) (fun _ => rfl) (fun _ V => Boxed V (w.heap.size + 1 + 1) 3 (.int .i64 0) ∧ Below w.heap.size w V) (fun _ _ _ => False) ?hI (fun _ _ _ _ _ h _ => h) HI0.out
    (fun x => { tmps := #[.agg #[.int .i64 mn, .int .i64 mx, .int .i64 bt], .string s, .int .i64 most, .pointer (some ⟨w.heap.size, 0, none⟩), undef, .pointer (some ⟨w.heap.size + 1, 0, none⟩), .string ⟨#[]⟩, .int .i64 0,
      .pointer (some ⟨w.heap.size + 1 + 1, 0, none⟩), .int .i64 (x.1 : Int), Sv x.2, .agg #[.int .i64 mn, .int .i64 mx, .int .i64 bt], .string s, .func (.func 28) #[] #[],
      .int .i64 (x.1 : Int), Sv x.2, undef, undef, undef, undef, undef, undef, undef, undef, undef, undef, undef, undef, undef, undef, undef], defers := [] }) ?assign ?body ?done ?stop
  case hI =>
    rintro pre A V hA ⟨h2, h3⟩ hk
    have z := HS.out
    exact ⟨hk.boxed (by omega) h2, h3.trans (hk.below (by omega) (fun k hk => by omega))⟩
  case assign =>
    intro l2 x V K hK
    simp only [encP]
    gi_wp2_with fail
    exact hK
  case body =>
    intro l2 pre x V _ _ hpre _
    have := hpre.length_le
    simp at this
  case done =>
    rintro V hV ⟨hbe, hbl⟩ hK
    have HB : Hid (Below w.heap.size w V) := hbl
    have HK : Hid (V.heap[w2.heap.size]? = some (Obj.deferred (some []))) := hK
    have hec := hbe.cell
    have le := hbe.lt
    have d1 : ∀ X : Since V.heap.size V, X.val.cell? ⟨w.heap.size + 1 + 1, 0, none⟩ = some (.int .i64 0) := fun X => (X.property.cell (p := ⟨w.heap.size + 1 + 1, 0, none⟩) le).trans hec
    have hne : Nonempty (Since V.heap.size V) := ⟨⟨V, Below.refl _ _⟩⟩
    have hcl := fun V => clone_any ByteArray.empty V (by simp)
    clear hbl hK hbe hec le HI0
    gi_wp2_with fail
    refine wpIn_wide.2 ?_
    refine wp_region_since (B := V.heap.size) (W0 := V) (by kernel_rfl) (by kernel_rfl) (Below.refl _ _) ?_
    repeat (go_big_quiet_step (fail))
    go_big_quiet_step (exact quiet_since _ (hcl _))
    repeat (go_big_quiet_step (fail))
    refine wpQuiet_nil ?_
    rintro w7 ⟨U, rfl⟩
    have hU := U.property
    have hB7 := HB.out.trans (hU.mono HB.out.size)
    have hK7 : U.val.heap[w2.heap.size]? = some (Obj.deferred (some [])) := (hU.block _ (by omega)).trans HK.out
    have H7 : Hid (Below w.heap.size w U.val ∧ U.val.heap[w2.heap.size]? = some (Obj.deferred (some []))) := ⟨hB7, hK7⟩
    generalize U.val = w7 at *
    clear hU hB7 hK7 d1 hne hcl HB HK
    gi_wp2_with fail
    obtain ⟨h2, h3⟩ := H7.out
    refine ⟨by simp, .inl ⟨_, _, rfl, run_takeDeferred h3, ?_⟩⟩
    have z := HS.out
    exact ⟨_, results_tmp2 rfl _ _ _, rfl, h2.trans (((Kept.refl (fun k => k ≠ w2.heap.size) _).putObj (fun h => h rfl) _).below h2.size (fun k hk => by omega))⟩
  case stop =>
    intro c pre V _ _ h _
    exact h.elim
end Go.Proofs.Ytdalpicpkandcaa
