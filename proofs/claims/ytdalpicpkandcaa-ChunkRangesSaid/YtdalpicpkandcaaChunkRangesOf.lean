/-
  The walk of lumlaw.ChunkRanges: it returns true.
-/
import Derived.Test.YtdalpicpkandcaaCkUntil
import Derived.Test.YtdalpicpkandcaaCkEq
namespace Go.Proofs.Ytdalpicpkandcaa
open Go.RowKit Go.Shelf

attribute [local go_sem] Oper.semAt_some
/-- between two rounds of the law's loop -/
structure RgI (w : World) (base bl : Nat) (mn mx bt : Int) (v : Value) (L l : List Ck.Bs) (V : World) : Prop where
  lb : Boxed V bl 24 v
  row : V.ownsRow base 9 1 v L.length (L.map Sv)
  at_ : Boxed V (bl + 1) 3 (.int .i64 (l.flatten.length : Nat))
  kk : Boxed V (bl + 1 + 1) 3 (.int .i64 (l.length : Nat))
  res : Boxed V (w.heap.size + 1) 4 (.bool false)
  cut : CutAt V w.heap.size mn mx bt
  bel : Below w.heap.size w V
theorem own_same {p : Nat → Prop} {A B : World} {base : Nat} {e : TypeId} {k : Nat} {v : Value} {n : Nat} {xs : List Value} (h : A.ownsRow base e k v n xs) (hk : Kept p A B) (hp : ∀ g, v.ownBlock = some g → p g) : B.ownsRow base e k v n xs := by
  obtain ⟨h1, h2⟩ := h
  refine ⟨h1, ?_⟩
  rcases h2 with h2 | ⟨g, cap, cur, rfl, hg, hh, r⟩
  · exact .inl h2
  · exact .inr ⟨g, cap, cur, rfl, hg, hk.obj (hp g rfl) hh, r⟩
theorem RgI.kept {p : Nat → Prop} {w A B : World} {base bl : Nat} {mn mx bt : Int} {v : Value} {L l : List Ck.Bs} (h : RgI w base bl mn mx bt v L l A) (hk : Kept p A B) (p1 : p bl) (p2 : p (bl + 1)) (p3 : p (bl + 1 + 1)) (p4 : p (w.heap.size + 1)) (p5 : p w.heap.size)
    (hg : ∀ g, v.ownBlock = some g → p g) (hw : ∀ k, k < w.heap.size → p k) (hs : w.heap.size ≤ A.heap.size) : RgI w base bl mn mx bt v L l B :=
  ⟨hk.boxed p1 h.lb, own_same h.row hk hg, hk.boxed p2 h.at_, hk.boxed p3 h.kk, hk.boxed p4 h.res, h.cut.kept hk p5, h.bel.trans (hk.below hs hw)⟩

/-- what the law's second loop needs of the pieces: A k, where the first k of them end -/
structure RgF (s : ByteArray) (L : List Ck.Bs) (most : Int) (E : Nat) : Prop where
  ends : ∃ A : Nat → Nat, A 0 = 0 ∧ (∀ k, A k ≤ s.size) ∧ (∀ k (h : k < L.length), A (k + 1) = A k + L[k].length ∧ s.extract 0 (A k) ++ (⟨L[k].toArray⟩ : ByteArray) = s.extract 0 (A (k + 1)) ∧
    (most < ((A k + L[k].length : Nat) : Int) → Ck.until most (A k) (L.drop k) = A k) ∧ (¬ most < ((A k + L[k].length : Nat) : Int) → Ck.until most (A k) (L.drop k) = Ck.until most (A (k + 1)) (L.drop (k + 1)))) ∧
    E = Ck.until most (A 0) (L.drop 0) ∧ Ck.until most (A L.length) (L.drop L.length) = A L.length
theorem take_flat (L : List Ck.Bs) (k : Nat) (h : k < L.length) : (L.take (k + 1)).flatten = (L.take k).flatten ++ L[k] := by
  rw [List.take_succ_eq_append_getElem h, List.flatten_append]; simp
theorem flat_pre (L : List Ck.Bs) (k : Nat) : (L.take k).flatten ++ (L.drop k).flatten = L.flatten := by
  rw [← List.flatten_append, List.take_append_drop]
theorem ext_pre (s : ByteArray) (a : Ck.Bs) (b : Ck.Bs) (h : a ++ b = s.data.toList) : s.extract 0 a.length = ⟨a.toArray⟩ := by
  rw [ext_eq, List.drop_zero, Nat.sub_zero, ← h, List.take_left]
theorem RgF.of (s : ByteArray) (L : List Ck.Bs) (hj : L.flatten = s.data.toList) (most : Int) (E : Nat) (hE : E = Ck.until most 0 L) : RgF s L most E := by
  refine ⟨fun k => (L.take k).flatten.length, rfl, fun k => ?_, fun k h => ⟨?_, ?_, ?_, ?_⟩, by rw [hE]; rfl, ?_⟩
  · have := congrArg List.length (flat_pre L k)
    rw [hj, List.length_append, ← Lib.size_eq] at this
    dsimp only
    omega
  · dsimp only
    rw [take_flat L k h, List.length_append]
  · dsimp only
    rw [ext_pre s _ ((L.drop k).flatten) (by rw [flat_pre, hj]), ext_pre s _ ((L.drop (k + 1)).flatten) (by rw [flat_pre, hj]), take_flat L k h]
    apply ByteArray.ext
    rw [ByteArray.data_append]
    simp
  · intro hm
    rw [List.drop_eq_getElem_cons h]
    exact Ck.until_out hm
  · intro hm
    dsimp only
    rw [List.drop_eq_getElem_cons h, Ck.until_in hm, take_flat L k h, List.length_append]
  · simp [Ck.until]

set_option maxRecDepth 100000 in
set_option maxHeartbeats 2000000 in
theorem chunkRanges_ok (mn mx bt : Nat) (hO : OkCut mn mx bt) (s : ByteArray) (hs : s.size ≤ 4096) (most : Int) (hmw : most ≤ 9223372036854775807) (w : World) (L : List Ck.Bs) (hL : L = Ck.cut (Ck.ends mn mx bt Rl.ofL) s.data.toList) (hLl : L.length ≤ 4096) (E : Nat) (hE : E = Ck.until most 0 L)
    (eC : ∀ V, Calls Try.prog 12 #[cutV mn mx bt, .string s] V fun e w' => ∃ v, e = .returned (.tuple #[v, .int .i64 0]) ∧ w'.ownsRow V.heap.size 9 1 v L.length (L.map Sv) ∧ Below V.heap.size V w') :
    Calls Try.prog 5 #[cutV mn mx bt, .string s, .int .i64 most] w fun e w' => e = .returned (.bool true) ∧ Below w.heap.size w w' := by
  have hea := fun V => each_yes mn mx bt s V (sizeN_zero.2 ⟨hO, by omega⟩) hs
  unfold cutV at hea eC ⊢
  obtain ⟨W4, hW4⟩ : ∃ W4, W4 = (w.alloc (Obj.cells #[Value.int IntKind.i64 mn, Value.int IntKind.i64 mx, Value.int IntKind.i64 bt] 23)).alloc (Obj.cells #[Value.bool false] 4) := ⟨_, rfl⟩
  have HC : Hid (CutAt W4 w.heap.size mn mx bt) := by rw [hW4]; exact (Below.heap_alloc _ _ _ (by simp)).trans (World.alloc_heap_new w _)
  have HR4 : Hid (Boxed W4 (w.heap.size + 1) 4 (.bool false)) := by
    rw [hW4]
    have := Boxed.new (w.alloc (Obj.cells #[Value.int IntKind.i64 mn, Value.int IntKind.i64 mx, Value.int IntKind.i64 bt] 23)) 4 (.bool false)
    rwa [World.size_alloc] at this
  have HB4 : Hid (Below w.heap.size w W4) := by rw [hW4]; exact ((Below.refl _ w).alloc (Nat.le_refl _) _).alloc (by simp) _
  have HZ4 : Hid (W4.heap.size = w.heap.size + 2) := by rw [hW4]; simp [Hid]
  refine (callsIn_wide (n := 9)).1 ?_
  refine callsIn_of_wp_marks Try.func5 rfl trivial ?_ rfl
  simp only [Try.ntmps5, List.size_toArray, List.length_cons, List.length_nil, Nat.reduceAdd, Nat.reduceSub, Array.replicate_succ, Array.replicate_zero, List.push_toArray, List.append_toArray, List.nil_append, List.cons_append]
  gi_wp2_with fail
  rw [← hW4]
  refine ⟨trivial, (callsIn_wide.2 (eC _)).mono ?_⟩
  rintro e w1 ⟨v, rfl, ov, hb1⟩
  have HOV : Hid (w1.ownsRow W4.heap.size 9 1 v L.length (L.map Sv)) := ov
  have HB1 : Hid (Below W4.heap.size W4 w1) := hb1
  obtain ⟨a', n', c', rfl⟩ : ∃ a n c, v = .slice a n c := by
    rcases ov.2 with ⟨rfl, _⟩ | ⟨g, cap, cur, rfl, _⟩
    · exact ⟨_, _, _, rfl⟩
    · exact ⟨_, _, _, rfl⟩
  have hc1 : CutAt w1 w.heap.size mn mx bt := HC.out.kept (Kept.of_below (p := fun _ => True) hb1) trivial
  have c0 := hc1.c0
  have c1 := hc1.c1
  have c2 := hc1.c2
  have hl1 : w.heap.size < w1.heap.size := hc1.lt
  obtain ⟨w1a, hw1a⟩ : ∃ w1a, w1a = ((w1.alloc (Obj.cells #[Value.slice a' n' c'] 24)).alloc (Obj.cells #[Value.int IntKind.i64 0] 3)).alloc (Obj.cells #[Value.int IntKind.i64 0] 3) := ⟨_, rfl⟩
  have hbw : Below w1.heap.size w1 w1a := by rw [hw1a]; exact (((Below.refl _ w1).alloc (Nat.le_refl _) _).alloc (by simp) _).alloc (by simp; omega) _
  have hc2 : CutAt w1a w.heap.size mn mx bt := hc1.kept (Kept.of_below (p := fun _ => True) hbw) trivial
  have e0 := hc2.c0
  have e1 := hc2.c1
  have e2 := hc2.c2
  have HX1 : Hid (Boxed w1a w1.heap.size 24 (.slice a' n' c')) := by rw [hw1a]; exact ((Boxed.new _ _ _).alloc _).alloc _
  have HX2 : Hid (Boxed w1a (w1.heap.size + 1) 3 (.int .i64 0)) := by
    rw [hw1a]
    have := Boxed.new (w1.alloc (.cells #[.slice a' n' c'] 24)) 3 (.int .i64 0)
    rw [World.size_alloc] at this
    exact this.alloc _
  have HX3 : Hid (Boxed w1a (w1.heap.size + 1 + 1) 3 (.int .i64 0)) := by
    rw [hw1a]
    have := Boxed.new ((w1.alloc (.cells #[.slice a' n' c'] 24)).alloc (Obj.cells #[Value.int IntKind.i64 0] 3)) 3 (.int .i64 0)
    rwa [World.size_alloc, World.size_alloc] at this
  have HZ1 : Hid (w1a.heap.size = w1.heap.size + 3) := by rw [hw1a]; simp [Hid]
  have HBW : Hid (Below w1.heap.size w1 w1a) := hbw
  rw [hw1a] at e0 e1 e2
  clear ov hb1 hc1 hc2 hbw
  gi_wp2_with fail
  rw [← hw1a]
  refine ⟨trivial, (callsIn_wide.2 (hea _)).mono ?_⟩
  rintro e w2 ⟨bc, rfl, hbc, hC2, hS2, hb2⟩
  obtain ⟨bl, hbl⟩ : ∃ bl, bl = w1.heap.size := ⟨_, rfl⟩
  have HOS : Hid (W4.heap.size ≤ bl) := by rw [hbl]; exact HB1.out.size
  have HI0 : Hid (RgI w W4.heap.size bl mn mx bt (.slice a' n' c') L [] w2) := by
    have k1 : Kept (fun _ => True) W4 w1 := Kept.of_below HB1.out
    have k2 : Kept (fun _ => True) w1 w1a := Kept.of_below HBW.out
    have k3 : Kept (fun _ => True) w1a w2 := Kept.of_below hb2
    rw [hbl]
    exact ⟨k3.boxed trivial HX1.out, own_kept (own_kept HOV.out k2 (fun _ _ => trivial)) k3 (fun _ _ => trivial), k3.boxed trivial HX2.out, k3.boxed trivial HX3.out, (k1.trans (k2.trans k3)).boxed trivial HR4.out,
      HC.out.kept (k1.trans (k2.trans k3)) trivial, HB4.out.trans (((k1.trans (k2.trans k3)).below (n := w.heap.size) (by have := HZ4.out; omega) (fun _ _ => trivial)))⟩
  have HS : Hid (w.heap.size + 2 ≤ bl ∧ bl + 3 ≤ bc ∧ bc + 1 < w2.heap.size) := by
    have h1 := HZ4.out
    have h2 := HB1.out.size
    have h3 := HZ1.out
    exact ⟨by omega, by omega, hS2.lt⟩
  have HG : Hid (∀ g, (Value.slice a' n' c').ownBlock = some g → g < bl) := fun g hg => by
    rw [hbl]; exact (HOV.out.lt g hg).2
  rw [← hbl]
  clear hw1a e0 e1 e2 c0 c1 c2 hea hbl HX1 HX2 HX3 HOV HB1 HBW HZ1 HZ4 HB4 HR4 HC hb2 hbc hl1 eC hW4
  gi_wp2_with fail
  refine rf_outer (α := Nat × Ck.Bs) (m := 9) (gf := 36) (lb := #[.pointer (some ⟨bc, 0, none⟩), .pointer (some ⟨bc + 1, 0, none⟩)]) rfl (enters_of Try.func36 (by kernel_rfl) rfl)
    (encs := encP) (xs := Ck.withAt 0 L) (d := 6) (Kp := fun k => k = bc ∨ k = bc + 1)
    ?seq (by have z := HS.out; omega) (fun _ => rfl) (fun pre V => RgI w W4.heap.size bl mn mx bt (.slice a' n' c') L (pre.map (·.2)) V) (fun _ _ _ => False) ?hI (fun _ _ _ _ _ h _ => h) HI0.out
    (fun x => { tmps := #[.agg #[.int .i64 mn, .int .i64 mx, .int .i64 bt], .string s, .int .i64 most, .pointer (some ⟨w.heap.size, 0, none⟩), undef, undef, .pointer (some ⟨w.heap.size + 1, 0, none⟩), .pointer (some ⟨bl, 0, none⟩), .int .i64 0,
      .pointer (some ⟨bl + 1, 0, none⟩), .pointer (some ⟨bl + 1 + 1, 0, none⟩), .int .i64 (x.1 : Int), Sv x.2, undef, undef, undef, undef, undef, .tuple #[.slice a' n' c', .int .i64 0], .agg #[.int .i64 mn, .int .i64 mx, .int .i64 bt], .string s,
      .tuple #[.slice a' n' c', .int .i64 0], .slice a' n' c', .int .i64 0, .agg #[.int .i64 mn, .int .i64 mx, .int .i64 bt], .string s, .func (.func 36) #[] #[.pointer (some ⟨bc, 0, none⟩), .pointer (some ⟨bc + 1, 0, none⟩)],
      .int .i64 (x.1 : Int), Sv x.2, undef, undef, undef, undef, undef, undef, undef, undef, undef, undef, undef, undef, undef, undef, undef, undef, undef, undef, undef, undef, undef, undef, undef, undef, undef, undef, undef, undef, undef, undef, undef, undef, undef, undef, undef, undef, undef, undef, undef, undef, undef, undef, undef, undef, undef, undef, undef, undef, undef, undef, undef, undef, undef, undef, undef, undef, undef, undef, undef, undef, undef, undef, undef, undef, undef, undef, undef, undef], defers := [] }) ?assign ?body ?done ?stop
  case seq =>
    intro W1 hb hz
    have hk : Kept (fun _ => True) w2 W1 := Kept.of_below hb
    rw [hL]
    obtain ⟨_, _, _, h4, h5⟩ := hO
    exact pieces1_all mn mx bt (by omega) (by omega) s hs W1 bc (bc + 1) (hk.cutAt trivial hC2) (hk.boxed trivial hS2)
  case hI =>
    intro pre A V hA hi hk
    have z := HS.out
    exact hi.kept hk (by omega) (by omega) (by omega) (by omega) (by omega) (fun g hg => by have := HG.out g hg; omega) (fun k hk => by omega) (by omega)
  case assign =>
    intro l2 x V K hK
    simp only [encP]
    gi_wp2_with fail
    exact hK
  case body =>
    rintro l2 pre ⟨at', p⟩ V rfl hV hpre hi
    obtain ⟨pb, hpb⟩ : ∃ pb : ByteArray, pb = ⟨p.toArray⟩ := ⟨_, rfl⟩
    have HP : Hid (pb.size = p.length) := by rw [hpb]; show _ = _; simp [ByteArray.size]
    obtain rfl : at' = (pre.map (·.2)).flatten.length := by
      obtain ⟨post, hp⟩ := hpre
      have := Ck.withAt_next (l := L) (a := 0) (pre := pre) (x := (at', p)) (post := post) (by rw [← hp]; simp)
      simpa using this
    obtain ⟨post, HLs⟩ : ∃ post, Hid (L = pre.map (·.2) ++ p :: post) := by
      obtain ⟨post, hp⟩ := hpre
      refine ⟨post.map (·.2), ?_⟩
      show _ = _
      rw [← Ck.withAt_snd L 0, ← hp]
      simp
    have HPE : Hid ((pre ++ [((pre.map (·.2)).flatten.length, p)]).map (·.2) = pre.map (·.2) ++ [p]) := by show _ = _; simp
    have HPE2 : Hid (∀ (P : List Ck.Bs → Prop), P (pre.map (·.2) ++ [p]) → P ((pre ++ [((pre.map (·.2)).flatten.length, p)]).map (·.2))) := fun P h => by rw [HPE.out]; exact h
    simp only [Sv, ← hpb]
    generalize (pre ++ [((pre.map (·.2)).flatten.length, p)]) = prex at *
    generalize hl : pre.map (·.2) = l at *
    have hlen : l.length < L.length := by rw [HLs.out]; simp
    obtain ⟨g, cap, hv⟩ := own_split hi.row (by omega)
    cases hv
    have hcell : V.cell? ⟨g, l.length, none⟩ = some (.string pb) := by
      rw [own_cell hi.row l.length hlen]
      have : L[l.length] = p := by simp [HLs.out]
      rw [this, hpb]; rfl
    have hle : l.flatten.length + pb.size ≤ 4096 := by
      have h1 := congrArg (fun l : List Ck.Bs => l.flatten.length) HLs.out
      simp only [List.flatten_append, List.flatten_cons, List.length_append] at h1
      have h2 : L.flatten.length = s.size := by rw [hL, Ck.cut_join, ← Lib.size_eq]
      rw [HP.out]
      omega
    have hlc := hi.lb.cell
    have hac := hi.at_.cell
    have haf := hi.at_.frozen
    have hkc := hi.kk.cell
    have hkf := hi.kk.frozen
    have HI : Hid (RgI w W4.heap.size bl mn mx bt (.slice (some ⟨g, 0, none⟩) L.length c') L l V) := hi
    have HSm : Hid (((l ++ [p]).flatten.length : Nat) = l.flatten.length + pb.size) := by show _ = _; rw [HP.out]; simp
    have HLm : Hid ((l ++ [p]).length = l.length + 1) := by show _ = _; simp
    generalize l.flatten.length = A at *
    have hq : ((l.length : Int) == (L.length : Int)) = false := by rw [beq_eq_false_iff_ne]; omega
    generalize l.length = kk at *
    clear hpb hpre hi hL HI0 hC2 hS2 hl
    gi_wp2_with fail
    have hi := HI.out
    have z := HS.out
    have e1 : (((l ++ [p]).flatten.length : Nat) : Int) = (A : Int) + (pb.size : Int) := by rw [HSm.out]; simp
    have e2 : (((l ++ [p]).length : Nat) : Int) = (kk : Int) + 1 := by rw [HLm.out]; simp
    have hkp : Kept (fun k => k ≠ bl + 1 ∧ k ≠ bl + 1 + 1) V ((V.setCell ⟨bl + 1, 0, none⟩ (.int .i64 ((A : Int) + (pb.size : Int)))).setCell ⟨bl + 1 + 1, 0, none⟩ (.int .i64 ((kk : Int) + 1))) :=
      ((Kept.refl _ _).setCell (by dsimp only; omega) _).setCell (by dsimp only; omega) _
    refine ⟨((Kept.refl _ _).setCell (by dsimp only; omega) _).setCell (by dsimp only; omega) _, ?_⟩
    refine HPE2.out (fun q => RgI w W4.heap.size bl mn mx bt _ L q _) ?_
    refine ⟨hkp.boxed (by omega) hi.lb, own_same hi.row hkp (fun g hg => by have := HG.out g hg; omega), ?_, ?_, hkp.boxed (by omega) hi.res, hi.cut.kept hkp (by omega), hi.bel.trans (hkp.below hi.bel.size (fun k hk => by omega))⟩
    · rw [e1]
      exact (hi.at_.set _).other (by omega) _
    · rw [e2]
      exact (hi.kk.other (by omega) _).set _
  case done =>
    intro V hV hi hK
    rw [Ck.withAt_snd] at hi
    have HK : Hid (V.heap[w2.heap.size]? = some (Obj.deferred (some []))) := hK
    have HI : Hid (RgI w W4.heap.size bl mn mx bt (.slice a' n' c') L L V) := hi
    obtain rfl : n' = L.length := by
      rcases hi.row.2 with ⟨hv, h0⟩ | ⟨g, cap, cur, hv, _⟩
      · cases hv; exact h0.symm
      · cases hv; rfl
    have hlc := hi.lb.cell
    have hkc := hi.kk.cell
    have c0 := hi.cut.c0
    have c1 := hi.cut.c1
    have c2 := hi.cut.c2
    have hrf := hi.res.frozen
    have hrc := hi.res.cell
    have hU : ∀ V, Calls Try.prog 19 #[.agg #[.int .i64 mn, .int .i64 mx, .int .i64 bt], .string s, .int .i64 most] V fun e w' => e = .returned (.tuple #[.string (s.extract 0 E), .int .i64 (E : Nat)]) ∧ Below V.heap.size V w' := fun V => until_ok mn mx bt hO s hs most V L hL E hE
    have hjn : L.flatten.length = s.size := by rw [hL, Ck.cut_join, ← Lib.size_eq]
    have HF : Hid (RgF s L most E) := RgF.of s L (by rw [hL, Ck.cut_join]) most E hE
    clear hK hi hL hE HI0 hC2 hS2 hjn
    obtain ⟨A, a0, ale, astep, aE, aL⟩ := HF.out.ends
    have HA0 : Hid (s.extract 0 (A 0) = ⟨#[]⟩) := by show _ = _; rw [a0]; simp; rfl
    have HAL : Hid (Ck.until most (A L.length) (L.drop L.length) = A L.length) := aL
    have HAS : Hid (∀ k (h : k < L.length), A (k + 1) = A k + L[k].length ∧ s.extract 0 (A k) ++ (⟨L[k].toArray⟩ : ByteArray) = s.extract 0 (A (k + 1)) ∧
      (most < ((A k + L[k].length : Nat) : Int) → Ck.until most (A k) (L.drop k) = A k) ∧ (¬ most < ((A k + L[k].length : Nat) : Int) → Ck.until most (A k) (L.drop k) = Ck.until most (A (k + 1)) (L.drop (k + 1)))) := astep
    have HAE : Hid (E = Ck.until most (A 0) (L.drop 0)) := aE
    clear a0 astep aE aL HF
    gi_wp2_with fail
    gi_loopw [13, 54] (fun x i wr => ∃ k : Nat, k ≤ L.length ∧ i = .int .i64 k ∧ x = .string (s.extract 0 (A k)) ∧ Hid (E = Ck.until most (A k) (L.drop k)) ∧ wr = V) (fun _ i _ => L.length - (intOf i).toNat)
    case atStart => exact ⟨0, Nat.zero_le _, rfl, by rw [HA0.out], HAE, rfl⟩
    case round =>
      obtain ⟨k, hk, rfl, rfl, HEk, rfl⟩ := hrel
      by_cases hlt : k < L.length
      · obtain ⟨s1, s2, s3, s4⟩ := HAS.out k hlt
        obtain ⟨g, cap, hv⟩ := own_split HI.out.row (by omega)
        cases hv
        obtain ⟨pb, hpb⟩ : ∃ pb : ByteArray, pb = ⟨L[k].toArray⟩ := ⟨_, rfl⟩
        have hcell : wr.cell? ⟨g, k, none⟩ = some (.string pb) := by
          rw [own_cell HI.out.row k hlt, hpb]; rfl
        have hps : pb.size = L[k].length := by rw [hpb]; simp [ByteArray.size]
        rw [← hps] at s1 s3 s4
        rw [← hpb] at s2
        have hak := ale k
        have hak1 := ale (k + 1)
        by_cases hm : most < ((A k + pb.size : Nat) : Int)
        · have HEA : Hid (E = A k) := by show _ = _; rw [HEk.out, s3 (by omega)]
          have hAE : A k = E := HEA.out.symm
          have hX : (s.extract 0 E).size = E := by rw [← hAE, ByteArray.size_extract]; omega
          clear hpb hps s1 s2 s3 s4
          by_cases hq : (pb.size : Int) ≤ most
          · have hq2 : most - (pb.size : Int) < (E : Int) := by omega
            clear hm
            simp only [hAE]
            generalize s.extract 0 E = X at *
            gi_wp2_with fail
            refine ⟨trivial, (callsIn_wide.2 (hU _)).mono ?_⟩
            rintro e w5 ⟨rfl, hb5⟩
            have HB5 : Hid (Below wr.heap.size wr w5) := hb5
            have hlc5 := (hb5.cell (p := ⟨bl, 0, none⟩) HI.out.lb.lt).trans hlc
            have hkc5 := (hb5.cell (p := ⟨bl + 1 + 1, 0, none⟩) HI.out.kk.lt).trans hkc
            have hrf5 := (hb5.frozen (p := ⟨w.heap.size + 1, 0, none⟩) HI.out.res.lt).trans hrf
            have hrc5 := (hb5.cell (p := ⟨w.heap.size + 1, 0, none⟩) HI.out.res.lt).trans hrc
            clear hb5 hU hlc hkc hrf hrc
            gi_wp2_with fail
            have z := HS.out
            have hb5 := HB5.out
            have hK5 : (w5.setCell ⟨w.heap.size + 1, 0, none⟩ (.bool true)).heap[w2.heap.size]? = some (Obj.deferred (some [])) :=
              (Below.heap_setCell _ _ _ _ (by show w2.heap.size ≠ w.heap.size + 1; omega)).trans ((hb5.block _ (by omega)).trans HK.out)
            have hr5 : (w5.setCell ⟨w.heap.size + 1, 0, none⟩ (.bool true)).cell? ⟨w.heap.size + 1, 0, none⟩ = some (.bool true) := World.cell?_setCell_same' _ _ _ (by rw [hrc5]; rfl)
            have hbw : Below w.heap.size w (w5.setCell ⟨w.heap.size + 1, 0, none⟩ (.bool true)) := (HI.out.bel.trans (hb5.mono HI.out.bel.size)).setCell (show w.heap.size ≤ w.heap.size + 1 by omega) _
            generalize w5.setCell ⟨w.heap.size + 1, 0, none⟩ (.bool true) = w6 at *
            have hkp : Kept (fun k => k ≠ w2.heap.size) w6 (w6.putObj w2.heap.size (.deferred none)) := (Kept.refl _ _).putObj (fun h => h rfl) _
            have hr6 : (w6.putObj w2.heap.size (.deferred none)).cell? ⟨w.heap.size + 1, 0, none⟩ = some (.bool true) := (((hkp.below (n := w.heap.size + 2) (by have := World.block_lt_of_cell? _ _ hr5; dsimp only at this; omega) (fun k hk => by omega)).cell (p := ⟨w.heap.size + 1, 0, none⟩) (by show w.heap.size + 1 < w.heap.size + 2; omega))).trans hr5
            refine ⟨by simp, .inl ⟨_, _, rfl, run_takeDeferred hK5, ?_⟩⟩
            refine ⟨.bool true, ?_, rfl, hbw.trans (hkp.below hbw.size (fun k hk => by omega))⟩
            simp only [results]
            go_simp
          · have hq2 : most < (pb.size : Int) := by omega
            clear hm
            simp only [hAE]
            generalize s.extract 0 E = X at *
            gi_wp2_with fail
            refine ⟨trivial, (callsIn_wide.2 (hU _)).mono ?_⟩
            rintro e w5 ⟨rfl, hb5⟩
            have HB5 : Hid (Below wr.heap.size wr w5) := hb5
            have hlc5 := (hb5.cell (p := ⟨bl, 0, none⟩) HI.out.lb.lt).trans hlc
            have hkc5 := (hb5.cell (p := ⟨bl + 1 + 1, 0, none⟩) HI.out.kk.lt).trans hkc
            have hrf5 := (hb5.frozen (p := ⟨w.heap.size + 1, 0, none⟩) HI.out.res.lt).trans hrf
            have hrc5 := (hb5.cell (p := ⟨w.heap.size + 1, 0, none⟩) HI.out.res.lt).trans hrc
            clear hb5 hU hlc hkc hrf hrc
            gi_wp2_with fail
            have z := HS.out
            have hb5 := HB5.out
            have hK5 : (w5.setCell ⟨w.heap.size + 1, 0, none⟩ (.bool true)).heap[w2.heap.size]? = some (Obj.deferred (some [])) :=
              (Below.heap_setCell _ _ _ _ (by show w2.heap.size ≠ w.heap.size + 1; omega)).trans ((hb5.block _ (by omega)).trans HK.out)
            have hr5 : (w5.setCell ⟨w.heap.size + 1, 0, none⟩ (.bool true)).cell? ⟨w.heap.size + 1, 0, none⟩ = some (.bool true) := World.cell?_setCell_same' _ _ _ (by rw [hrc5]; rfl)
            have hbw : Below w.heap.size w (w5.setCell ⟨w.heap.size + 1, 0, none⟩ (.bool true)) := (HI.out.bel.trans (hb5.mono HI.out.bel.size)).setCell (show w.heap.size ≤ w.heap.size + 1 by omega) _
            generalize w5.setCell ⟨w.heap.size + 1, 0, none⟩ (.bool true) = w6 at *
            have hkp : Kept (fun k => k ≠ w2.heap.size) w6 (w6.putObj w2.heap.size (.deferred none)) := (Kept.refl _ _).putObj (fun h => h rfl) _
            have hr6 : (w6.putObj w2.heap.size (.deferred none)).cell? ⟨w.heap.size + 1, 0, none⟩ = some (.bool true) := (((hkp.below (n := w.heap.size + 2) (by have := World.block_lt_of_cell? _ _ hr5; dsimp only at this; omega) (fun k hk => by omega)).cell (p := ⟨w.heap.size + 1, 0, none⟩) (by show w.heap.size + 1 < w.heap.size + 2; omega))).trans hr5
            refine ⟨by simp, .inl ⟨_, _, rfl, run_takeDeferred hK5, ?_⟩⟩
            refine ⟨.bool true, ?_, rfl, hbw.trans (hkp.below hbw.size (fun k hk => by omega))⟩
            simp only [results]
            go_simp
        · have hX : (s.extract 0 (A k)).size = A k := by rw [ByteArray.size_extract]; omega
          have hcat : ∀ V : World, (Op.stringOp .add (s.extract 0 (A k)) pb).run Try.prog V = .ok (.string (s.extract 0 (A (k + 1)))) V := fun V => by
            rw [run_string_add_sum (P := Try.prog) (w := V) (s.extract 0 (A k)) pb (by rw [hX]; omega), s2]
          have HE1 : Hid (E = Ck.until most (A (k + 1)) (L.drop (k + 1))) := by show _ = _; rw [HEk.out, s4 (by omega)]
          have q1 : (pb.size : Int) ≤ most := by omega
          have q2 : (A k : Int) ≤ most - (pb.size : Int) := by omega
          have q3 : most - (pb.size : Int) ≤ 9223372036854775807 := by omega
          have q4 : 0 ≤ most - (pb.size : Int) := by omega
          clear hpb hps s1 s2 s3 s4 hm
          generalize s.extract 0 (A k) = X at *
          gi_wp2_with fail
          refine ⟨⟨k + 1, by omega, by go_num, rfl, HE1, trivial⟩, ?_⟩
          simp only [intOf]; omega
      · obtain rfl : k = L.length := by omega
        have HEA : Hid (E = A L.length) := by show _ = _; rw [HEk.out, HAL.out]
        have hAE : A L.length = E := HEA.out.symm
        have hX : (s.extract 0 E).size = E := by rw [← hAE, ByteArray.size_extract]; have := ale L.length; omega
        simp only [hAE]
        generalize s.extract 0 E = X at *
        gi_wp2_with fail
        refine ⟨trivial, (callsIn_wide.2 (hU _)).mono ?_⟩
        rintro e w5 ⟨rfl, hb5⟩
        have HB5 : Hid (Below wr.heap.size wr w5) := hb5
        have hlc5 := (hb5.cell (p := ⟨bl, 0, none⟩) HI.out.lb.lt).trans hlc
        have hkc5 := (hb5.cell (p := ⟨bl + 1 + 1, 0, none⟩) HI.out.kk.lt).trans hkc
        have hrf5 := (hb5.frozen (p := ⟨w.heap.size + 1, 0, none⟩) HI.out.res.lt).trans hrf
        have hrc5 := (hb5.cell (p := ⟨w.heap.size + 1, 0, none⟩) HI.out.res.lt).trans hrc
        clear hb5 hU hlc hkc hrf hrc
        gi_wp2_with fail
        have z := HS.out
        have hb5 := HB5.out
        have hK5 : (w5.setCell ⟨w.heap.size + 1, 0, none⟩ (.bool true)).heap[w2.heap.size]? = some (Obj.deferred (some [])) :=
          (Below.heap_setCell _ _ _ _ (by show w2.heap.size ≠ w.heap.size + 1; omega)).trans ((hb5.block _ (by omega)).trans HK.out)
        have hr5 : (w5.setCell ⟨w.heap.size + 1, 0, none⟩ (.bool true)).cell? ⟨w.heap.size + 1, 0, none⟩ = some (.bool true) := World.cell?_setCell_same' _ _ _ (by rw [hrc5]; rfl)
        have hbw : Below w.heap.size w (w5.setCell ⟨w.heap.size + 1, 0, none⟩ (.bool true)) := (HI.out.bel.trans (hb5.mono HI.out.bel.size)).setCell (show w.heap.size ≤ w.heap.size + 1 by omega) _
        generalize w5.setCell ⟨w.heap.size + 1, 0, none⟩ (.bool true) = w6 at *
        have hkp : Kept (fun k => k ≠ w2.heap.size) w6 (w6.putObj w2.heap.size (.deferred none)) := (Kept.refl _ _).putObj (fun h => h rfl) _
        have hr6 : (w6.putObj w2.heap.size (.deferred none)).cell? ⟨w.heap.size + 1, 0, none⟩ = some (.bool true) := (((hkp.below (n := w.heap.size + 2) (by have := World.block_lt_of_cell? _ _ hr5; dsimp only at this; omega) (fun k hk => by omega)).cell (p := ⟨w.heap.size + 1, 0, none⟩) (by show w.heap.size + 1 < w.heap.size + 2; omega))).trans hr5
        refine ⟨by simp, .inl ⟨_, _, rfl, run_takeDeferred hK5, ?_⟩⟩
        refine ⟨.bool true, ?_, rfl, hbw.trans (hkp.below hbw.size (fun k hk => by omega))⟩
        simp only [results]
        go_simp
  case stop =>
    intro c pre V _ _ h _
    exact h.elim

set_option maxRecDepth 100000 in
set_option maxHeartbeats 2000000 in
theorem chunkRanges_no (mn mx bt : Int) (s : ByteArray) (hO : sizeN mn mx bt s.size ≠ 0) (most ke : Int) (w : World)
    (eC : ∀ V, Calls Try.prog 12 #[cutV mn mx bt, .string s] V fun e w' => ∃ v, e = .returned (.tuple #[v, .int .i64 ke]) ∧ w'.ownsRow V.heap.size 9 1 v 0 [] ∧ Below V.heap.size V w') :
    Calls Try.prog 5 #[cutV mn mx bt, .string s, .int .i64 most] w fun e w' => e = .returned (.bool true) ∧ Below w.heap.size w w' := by
  have hea := fun V => each_no mn mx bt s V hO
  have hU : ∀ V, Calls Try.prog 19 #[cutV mn mx bt, .string s, .int .i64 most] V fun e w' => e = .returned (.tuple #[.string ⟨#[]⟩, .int .i64 0]) ∧ Below V.heap.size V w' := fun V => until_no mn mx bt s hO most V
  unfold cutV at hea eC hU ⊢
  obtain ⟨W4, hW4⟩ : ∃ W4, W4 = (w.alloc (Obj.cells #[Value.int IntKind.i64 mn, Value.int IntKind.i64 mx, Value.int IntKind.i64 bt] 23)).alloc (Obj.cells #[Value.bool false] 4) := ⟨_, rfl⟩
  have HC : Hid (CutAt W4 w.heap.size mn mx bt) := by rw [hW4]; exact (Below.heap_alloc _ _ _ (by simp)).trans (World.alloc_heap_new w _)
  have HR4 : Hid (Boxed W4 (w.heap.size + 1) 4 (.bool false)) := by
    rw [hW4]
    have := Boxed.new (w.alloc (Obj.cells #[Value.int IntKind.i64 mn, Value.int IntKind.i64 mx, Value.int IntKind.i64 bt] 23)) 4 (.bool false)
    rwa [World.size_alloc] at this
  have HB4 : Hid (Below w.heap.size w W4) := by rw [hW4]; exact ((Below.refl _ w).alloc (Nat.le_refl _) _).alloc (by simp) _
  have HZ4 : Hid (W4.heap.size = w.heap.size + 2) := by rw [hW4]; simp [Hid]
  refine (callsIn_wide (n := 9)).1 ?_
  refine callsIn_of_wp_marks Try.func5 rfl trivial ?_ rfl
  simp only [Try.ntmps5, List.size_toArray, List.length_cons, List.length_nil, Nat.reduceAdd, Nat.reduceSub, Array.replicate_succ, Array.replicate_zero, List.push_toArray, List.append_toArray, List.nil_append, List.cons_append]
  gi_wp2_with fail
  rw [← hW4]
  refine ⟨trivial, (callsIn_wide.2 (eC _)).mono ?_⟩
  rintro e w1 ⟨v, rfl, ov, hb1⟩
  have HOV : Hid (w1.ownsRow W4.heap.size 9 1 v ([] : List Ck.Bs).length (([] : List Ck.Bs).map Sv)) := ov
  have HB1 : Hid (Below W4.heap.size W4 w1) := hb1
  obtain ⟨a', n', c', rfl⟩ : ∃ a n c, v = .slice a n c := by
    rcases ov.2 with ⟨rfl, _⟩ | ⟨g, cap, cur, rfl, _⟩
    · exact ⟨_, _, _, rfl⟩
    · exact ⟨_, _, _, rfl⟩
  have hc1 : CutAt w1 w.heap.size mn mx bt := HC.out.kept (Kept.of_below (p := fun _ => True) hb1) trivial
  have c0 := hc1.c0
  have c1 := hc1.c1
  have c2 := hc1.c2
  have hl1 : w.heap.size < w1.heap.size := hc1.lt
  obtain ⟨w1a, hw1a⟩ : ∃ w1a, w1a = ((w1.alloc (Obj.cells #[Value.slice a' n' c'] 24)).alloc (Obj.cells #[Value.int IntKind.i64 0] 3)).alloc (Obj.cells #[Value.int IntKind.i64 0] 3) := ⟨_, rfl⟩
  have hbw : Below w1.heap.size w1 w1a := by rw [hw1a]; exact (((Below.refl _ w1).alloc (Nat.le_refl _) _).alloc (by simp) _).alloc (by simp; omega) _
  have hc2 : CutAt w1a w.heap.size mn mx bt := hc1.kept (Kept.of_below (p := fun _ => True) hbw) trivial
  have e0 := hc2.c0
  have e1 := hc2.c1
  have e2 := hc2.c2
  have HX1 : Hid (Boxed w1a w1.heap.size 24 (.slice a' n' c')) := by rw [hw1a]; exact ((Boxed.new _ _ _).alloc _).alloc _
  have HX2 : Hid (Boxed w1a (w1.heap.size + 1) 3 (.int .i64 0)) := by
    rw [hw1a]
    have := Boxed.new (w1.alloc (.cells #[.slice a' n' c'] 24)) 3 (.int .i64 0)
    rw [World.size_alloc] at this
    exact this.alloc _
  have HX3 : Hid (Boxed w1a (w1.heap.size + 1 + 1) 3 (.int .i64 0)) := by
    rw [hw1a]
    have := Boxed.new ((w1.alloc (.cells #[.slice a' n' c'] 24)).alloc (Obj.cells #[Value.int IntKind.i64 0] 3)) 3 (.int .i64 0)
    rwa [World.size_alloc, World.size_alloc] at this
  have HZ1 : Hid (w1a.heap.size = w1.heap.size + 3) := by rw [hw1a]; simp [Hid]
  have HBW : Hid (Below w1.heap.size w1 w1a) := hbw
  rw [hw1a] at e0 e1 e2
  clear ov hb1 hc1 hc2 hbw
  gi_wp2_with fail
  rw [← hw1a]
  refine ⟨trivial, (callsIn_wide.2 (hea _)).mono ?_⟩
  rintro e w2 ⟨rfl, hb2⟩
  obtain ⟨bl, hbl⟩ : ∃ bl, bl = w1.heap.size := ⟨_, rfl⟩
  have HOS : Hid (W4.heap.size ≤ bl) := by rw [hbl]; exact HB1.out.size
  have HI0 : Hid (RgI w W4.heap.size bl mn mx bt (.slice a' n' c') [] [] w2) := by
    have k1 : Kept (fun _ => True) W4 w1 := Kept.of_below HB1.out
    have k2 : Kept (fun _ => True) w1 w1a := Kept.of_below HBW.out
    have k3 : Kept (fun _ => True) w1a w2 := Kept.of_below hb2
    rw [hbl]
    exact ⟨k3.boxed trivial HX1.out, own_kept (own_kept HOV.out k2 (fun _ _ => trivial)) k3 (fun _ _ => trivial), k3.boxed trivial HX2.out, k3.boxed trivial HX3.out, (k1.trans (k2.trans k3)).boxed trivial HR4.out,
      HC.out.kept (k1.trans (k2.trans k3)) trivial, HB4.out.trans (((k1.trans (k2.trans k3)).below (n := w.heap.size) (by have := HZ4.out; omega) (fun _ _ => trivial)))⟩
  have HS : Hid (w.heap.size + 2 ≤ bl ∧ bl + 3 ≤ w2.heap.size) := by
    have h1 := HZ4.out
    have h2 := HB1.out.size
    have h3 := HZ1.out
    have h4 := hb2.size
    exact ⟨by omega, by omega⟩
  have HG : Hid (∀ g, (Value.slice a' n' c').ownBlock = some g → g < bl) := fun g hg => by
    rw [hbl]; exact (HOV.out.lt g hg).2
  rw [← hbl]
  clear hw1a e0 e1 e2 c0 c1 c2 hea hbl HX1 HX2 HX3 HOV HB1 HBW HZ1 HZ4 HB4 HR4 HC hb2 hl1 eC hW4
  gi_wp2_with fail
  refine rf_outer (α := Nat × Ck.Bs) (m := 9) (gf := 28) (lb := #[]) rfl (enters_of Try.func28 (by kernel_rfl) rfl)
    (encs := encP) (xs := []) (d := 0) (Kp := fun _ => False)
    (fun W1 _ _ => each1_tells W1 _) (fun h => h) (fun _ => rfl) (fun _ V => RgI w W4.heap.size bl mn mx bt (.slice a' n' c') [] [] V) (fun _ _ _ => False) ?hI (fun _ _ _ _ _ h _ => h) HI0.out
    (fun x => { tmps := #[.agg #[.int .i64 mn, .int .i64 mx, .int .i64 bt], .string s, .int .i64 most, .pointer (some ⟨w.heap.size, 0, none⟩), undef, undef, .pointer (some ⟨w.heap.size + 1, 0, none⟩), .pointer (some ⟨bl, 0, none⟩), .int .i64 ke,
      .pointer (some ⟨bl + 1, 0, none⟩), .pointer (some ⟨bl + 1 + 1, 0, none⟩), .int .i64 (x.1 : Int), Sv x.2, undef, undef, undef, undef, undef, .tuple #[.slice a' n' c', .int .i64 ke], .agg #[.int .i64 mn, .int .i64 mx, .int .i64 bt], .string s,
      .tuple #[.slice a' n' c', .int .i64 ke], .slice a' n' c', .int .i64 ke, .agg #[.int .i64 mn, .int .i64 mx, .int .i64 bt], .string s, .func (.func 28) #[] #[],
      .int .i64 (x.1 : Int), Sv x.2, undef, undef, undef, undef, undef, undef, undef, undef, undef, undef, undef, undef, undef, undef, undef, undef, undef, undef, undef, undef, undef, undef, undef, undef, undef, undef, undef, undef, undef, undef, undef, undef, undef, undef, undef, undef, undef, undef, undef, undef, undef, undef, undef, undef, undef, undef, undef, undef, undef, undef, undef, undef, undef, undef, undef, undef, undef, undef, undef, undef, undef, undef, undef, undef, undef, undef, undef, undef], defers := [] }) ?assign ?body ?done ?stop
  case hI =>
    intro pre A V hA hi hk
    have z := HS.out
    exact hi.kept hk (by omega) (by omega) (by omega) (by omega) (by omega) (fun g hg => by have := HG.out g hg; omega) (fun k hk => by omega) (by omega)
  case assign =>
    intro l2 x V K hK
    simp only [encP]
    gi_wp2_with fail
    exact hK
  case body =>
    intro l2 pre x V _ _ hpre _
    have := hpre.length_le
    simp at this
  case done =>
    intro V hV hi hK
    have HK : Hid (V.heap[w2.heap.size]? = some (Obj.deferred (some []))) := hK
    have HI : Hid (RgI w W4.heap.size bl mn mx bt (.slice a' n' c') [] [] V) := hi
    obtain rfl : n' = 0 := by
      rcases hi.row.2 with ⟨hv, h0⟩ | ⟨g, cap, cur, hv, _⟩
      · cases hv; rfl
      · cases hv; rfl
    have hlc := hi.lb.cell
    have hkc := hi.kk.cell
    have c0 := hi.cut.c0
    have c1 := hi.cut.c1
    have c2 := hi.cut.c2
    have hrf := hi.res.frozen
    have hrc := hi.res.cell
    clear hK hi HI0
    gi_wp2_with fail
    gi_loopw [13, 54] (fun x i wr => x = .string ⟨#[]⟩ ∧ i = .int .i64 0 ∧ wr = V) (fun _ _ _ => 0)
    case atStart => exact ⟨rfl, rfl, rfl⟩
    case round =>
      obtain ⟨rfl, rfl, rfl⟩ := hrel
      · skip
        gi_wp2_with fail
        refine ⟨trivial, (callsIn_wide.2 (hU _)).mono ?_⟩
        rintro e w5 ⟨rfl, hb5⟩
        have HB5 : Hid (Below wr.heap.size wr w5) := hb5
        have hlc5 := (hb5.cell (p := ⟨bl, 0, none⟩) HI.out.lb.lt).trans hlc
        have hkc5 := (hb5.cell (p := ⟨bl + 1 + 1, 0, none⟩) HI.out.kk.lt).trans hkc
        have hrf5 := (hb5.frozen (p := ⟨w.heap.size + 1, 0, none⟩) HI.out.res.lt).trans hrf
        have hrc5 := (hb5.cell (p := ⟨w.heap.size + 1, 0, none⟩) HI.out.res.lt).trans hrc
        clear hb5 hU hlc hkc hrf hrc
        gi_wp2_with fail
        have z := HS.out
        have hb5 := HB5.out
        have hK5 : (w5.setCell ⟨w.heap.size + 1, 0, none⟩ (.bool true)).heap[w2.heap.size]? = some (Obj.deferred (some [])) :=
          (Below.heap_setCell _ _ _ _ (by show w2.heap.size ≠ w.heap.size + 1; omega)).trans ((hb5.block _ (by omega)).trans HK.out)
        have hr5 : (w5.setCell ⟨w.heap.size + 1, 0, none⟩ (.bool true)).cell? ⟨w.heap.size + 1, 0, none⟩ = some (.bool true) := World.cell?_setCell_same' _ _ _ (by rw [hrc5]; rfl)
        have hbw : Below w.heap.size w (w5.setCell ⟨w.heap.size + 1, 0, none⟩ (.bool true)) := (HI.out.bel.trans (hb5.mono HI.out.bel.size)).setCell (show w.heap.size ≤ w.heap.size + 1 by omega) _
        generalize w5.setCell ⟨w.heap.size + 1, 0, none⟩ (.bool true) = w6 at *
        have hkp : Kept (fun k => k ≠ w2.heap.size) w6 (w6.putObj w2.heap.size (.deferred none)) := (Kept.refl _ _).putObj (fun h => h rfl) _
        have hr6 : (w6.putObj w2.heap.size (.deferred none)).cell? ⟨w.heap.size + 1, 0, none⟩ = some (.bool true) := (((hkp.below (n := w.heap.size + 2) (by have := World.block_lt_of_cell? _ _ hr5; dsimp only at this; omega) (fun k hk => by omega)).cell (p := ⟨w.heap.size + 1, 0, none⟩) (by show w.heap.size + 1 < w.heap.size + 2; omega))).trans hr5
        refine ⟨by simp, .inl ⟨_, _, rfl, run_takeDeferred hK5, ?_⟩⟩
        refine ⟨.bool true, ?_, rfl, hbw.trans (hkp.below hbw.size (fun k hk => by omega))⟩
        simp only [results]
        go_simp
  case stop =>
    intro c pre V _ _ h _
    exact h.elim
end Go.Proofs.Ytdalpicpkandcaa
