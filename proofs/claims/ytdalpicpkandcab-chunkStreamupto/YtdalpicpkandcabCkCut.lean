/-
  What Cut of package chunk answers.
-/
import Derived.Test.YtdalpicpkandcabCkPieces
import Derived.Maps.AppendAt
namespace Go.Proofs.Ytdalpicpkandcab
open Go.RowKit Go.Shelf

attribute [local go_sem] Oper.semAt_some
/-- 'l = append(l, p)', l a variable in a box -/
theorem box_appended {W w1 : World} {base B : Nat} {t e : TypeId} {size : Nat} {v v' : Value} {k m : Nat} {xs ys : List Value} {tmp : Obj} {p : Nat → Prop} (hv : Boxed W B t v) (hB : B < base)
    (hrow : W.ownsRow base e size v k xs) (hown' : w1.ownsRow base e size v' m ys) (hgrow : (W.alloc tmp).grownBy w1 v.ownBlock) (hp : ∀ k, p k → k ≠ B ∧ k < base) :
    Boxed w1 B t v ∧ Boxed (w1.setCell ⟨B, 0, none⟩ v') B t v' ∧ (w1.setCell ⟨B, 0, none⟩ v').ownsRow base e size v' m ys ∧ Kept p W (w1.setCell ⟨B, 0, none⟩ v') := by
  have hne : some B ≠ v.ownBlock := fun h => by have := (hrow.lt B h.symm).1; omega
  have hv1 : Boxed w1 B t v := (hv.alloc tmp).kept hgrow hne
  refine ⟨hv1, hv1.set v', ownsRow_setCell_below hown' hB v', ?_⟩
  refine (((Kept.refl p W).alloc tmp).grown hgrow fun j ej hpj => ?_).setCell (fun h => (hp _ h).1 rfl) v'
  have h1 := (hrow.lt j ej).1
  have h2 := (hp j hpj).2
  omega

theorem own_kept {p : Nat → Prop} {A B : World} {base : Nat} {e : TypeId} {k : Nat} {v : Value} {n : Nat} {xs : List Value} (h : A.ownsRow base e k v n xs) (hk : Kept p A B) (hp : ∀ g, base ≤ g → p g) : B.ownsRow base e k v n xs := by
  obtain ⟨h1, h2⟩ := h
  refine ⟨h1, ?_⟩
  rcases h2 with h2 | ⟨g, cap, cur, hv, hg, hh, r⟩
  · exact .inl h2
  · exact .inr ⟨g, cap, cur, hv, hg, hk.obj (hp g hg) hh, r⟩
/-- pieces that were collected in a variable -/
structure Got (n₀ : Nat) (w : World) (base bl : Nat) (l : List Ck.Bs) (V : World) : Prop where
  box : ∃ v, Boxed V bl 24 v ∧ V.ownsRow base 9 1 v l.length (l.map Sv)
  bel : Below n₀ w V
theorem Got.kept {p : Nat → Prop} {n₀ base bl : Nat} {w A B : World} {l : List Ck.Bs} (h : Got n₀ w base bl l A) (hk : Kept p A B) (hb : p bl) (hp : ∀ g, base ≤ g → p g) (hn : ∀ k, k < n₀ → p k) (hs : n₀ ≤ A.heap.size) : Got n₀ w base bl l B := by
  obtain ⟨⟨v, h1, h2⟩, h3⟩ := h
  exact ⟨⟨v, hk.boxed hb h1, own_kept h2 hk hp⟩, h3.trans (hk.below hs hn)⟩

set_option maxRecDepth 100000 in
set_option maxHeartbeats 2000000 in
theorem cut_ok (mn mx bt : Nat) (hO : OkCut mn mx bt) (s : ByteArray) (hs : s.size ≤ 4096) (w : World) (L : List Ck.Bs) (hL : L = Ck.cut (Ck.ends mn mx bt Rl.ofL) s.data.toList) (hLl : L.length ≤ 4096) :
    Calls Try.prog 6 #[cutV mn mx bt, .string s] w fun e w' => ∃ v, e = .returned (.tuple #[v, .int .i64 0]) ∧ w'.ownsRow w.heap.size 9 1 v L.length (L.map Sv) ∧ Below w.heap.size w w' := by
  obtain ⟨i0, hi, hz0, hz1, hz2⟩ := info_parts info_str
  have hsz := size_any mn mx bt s.size
  rw [sizeN_zero.2 ⟨hO, by omega⟩] at hsz
  have hpa := pieces_any mn mx bt s
  unfold cutV at hsz hpa ⊢
  obtain ⟨W4, hW4⟩ : ∃ W4, W4 = w.alloc (Obj.cells #[Value.int IntKind.i64 mn, Value.int IntKind.i64 mx, Value.int IntKind.i64 bt] 23) := ⟨_, rfl⟩
  have hlw : w.heap.size < W4.heap.size := by rw [hW4]; simp
  have HB : Hid (Below w.heap.size w W4) := by rw [hW4]; exact (Below.refl _ w).alloc (Nat.le_refl _) _
  have HC : Hid (CutAt W4 w.heap.size mn mx bt) := by rw [hW4]; exact World.alloc_heap_new w _
  refine (callsIn_wide (n := 9)).1 ?_
  refine callsIn_of_wp_marks Try.func6 rfl trivial ?_ rfl
  simp only [Try.ntmps6, List.size_toArray, List.length_cons, List.length_nil, Nat.reduceAdd, Nat.reduceSub, Array.replicate_succ, Array.replicate_zero, List.push_toArray, List.append_toArray, List.nil_append, List.cons_append]
  gi_wp2_with fail
  rw [← hW4]
  refine ⟨trivial, (callsIn_wide.2 (hsz _)).mono ?_⟩
  rintro e w1 ⟨rfl, hb1⟩
  have hc1 : CutAt w1 w.heap.size mn mx bt := HC.out.kept (Kept.of_below (p := fun _ => True) hb1) trivial
  have HB1 : Hid (Below w.heap.size w w1) := HB.out.trans (hb1.mono (by omega))
  have hl1 : w.heap.size < w1.heap.size := by have := hb1.size; omega
  have c0 := hc1.c0
  have c1 := hc1.c1
  have c2 := hc1.c2
  obtain ⟨w1a, hw1a⟩ : ∃ w1a, w1a = w1.alloc (.cells #[.slice none 0 0] 24) := ⟨_, rfl⟩
  have HBX : Hid (Boxed w1a w1.heap.size 24 (.slice none 0 0)) := by rw [hw1a]; exact Boxed.new _ _ _
  have HB1a : Hid (Below w.heap.size w w1a) := by rw [hw1a]; exact HB1.out.alloc (by omega) _
  have HSZ : Hid (w1a.heap.size = w1.heap.size + 1) := by rw [hw1a]; simp [Hid]
  clear hb1 hc1 HB HC hsz HB1 hW4 hlw
  gi_wp2_with fail
  rw [← hw1a]
  refine ⟨trivial, (callsIn_wide.2 (hpa _)).mono ?_⟩
  rintro e w2 ⟨rfl, hC2, hS2, hb2, hsz2⟩
  obtain ⟨bc, hbc⟩ : ∃ bc, bc = w1a.heap.size := ⟨_, rfl⟩
  obtain ⟨bl, hbl⟩ : ∃ bl, bl = w1.heap.size := ⟨_, rfl⟩
  have HS : Hid (w.heap.size < bl ∧ bc = bl + 1 ∧ w2.heap.size = bl + 3) := by
    have := HSZ.out
    refine ⟨by omega, by omega, by omega⟩
  rw [← hbc] at hC2 hS2 ⊢
  have HI0 : Hid (Got w.heap.size w (w2.heap.size + 8) bl [] w2) := by
    refine ⟨⟨_, (Kept.of_below (p := fun _ => True) hb2).boxed trivial (by rw [hbl]; exact HBX.out), World.ownsRow_nil _ _ _ _⟩, HB1a.out.trans (hb2.mono HB1a.out.size)⟩
  rw [← hbl]
  clear hbc hbl HB1a HBX HSZ hw1a hb2 hsz2 c0 c1 c2 hpa hl1
  gi_wp2_with fail
  refine rf_outer (α := Nat × Ck.Bs) (m := 9) (gf := 28) (lb := #[.pointer (some ⟨bc, 0, none⟩), .pointer (some ⟨bc + 1, 0, none⟩)]) rfl (enters_of Try.func28 (by kernel_rfl) rfl)
    (encs := encP) (xs := Ck.withAt 0 L) (d := 6) (Kp := fun k => k = bc ∨ k = bc + 1)
    ?seq (by have z := HS.out; omega) (fun _ => rfl) (fun pre V => Got w.heap.size w (w2.heap.size + 8) bl (pre.map (·.2)) V) (fun _ _ _ => False) ?hI (fun _ _ _ _ _ h _ => h) HI0.out
    (fun x => { tmps := #[.agg #[.int .i64 mn, .int .i64 mx, .int .i64 bt], .string s, .pointer (some ⟨w.heap.size, 0, none⟩), undef, .slice none 0 0, .int .i64 0, .int .i64 0, .pointer (some ⟨bl, 0, none⟩), undef, Sv x.2,
      .agg #[.int .i64 mn, .int .i64 mx, .int .i64 bt], .string s, .int .i64 s.size, .int .i64 0, .int .i64 0, .bool false, undef, .agg #[.int .i64 mn, .int .i64 mx, .int .i64 bt], .string s,
      .func (.func 28) #[] #[.pointer (some ⟨bc, 0, none⟩), .pointer (some ⟨bc + 1, 0, none⟩)], .int .i64 (x.1 : Int), Sv x.2, undef, undef, undef, undef, undef], defers := [] }) ?assign ?body ?done ?stop
  case seq =>
    intro W1 hb hz
    have hk : Kept (fun _ => True) w2 W1 := Kept.of_below hb
    rw [hL]
    obtain ⟨_, _, _, h4, h5⟩ := hO
    exact pieces1_all mn mx bt (by omega) (by omega) s hs W1 bc (bc + 1) (hk.cutAt trivial hC2) (hk.boxed trivial hS2)
  case hI =>
    intro pre A V hA hg hk
    have z := HS.out
    exact hg.kept hk (by omega) (fun g hg => by omega) (fun k hk => by omega) (by omega)
  case assign =>
    intro l2 x V K hK
    simp only [encP]
    gi_wp2_with fail
    exact hK
  case body =>
    rintro l2 pre ⟨at', p⟩ V rfl hV hpre hg
    obtain ⟨pb, hpb⟩ : ∃ pb : ByteArray, pb = ⟨p.toArray⟩ := ⟨_, rfl⟩
    have HP : Hid (pb.data.toList = p) := by rw [hpb]; show _ = _; simp
    have hpl : (pre.map (·.2)).length ≤ 4096 := by
      have := hpre.length_le
      rw [Ck.withAt_length, List.length_append, List.length_singleton] at this
      rw [List.length_map]
      omega
    obtain ⟨⟨v, hv, hrow⟩, hbel⟩ := hg
    have hvc := hv.cell
    simp only [Sv, ← hpb]
    have HPE : Hid ((pre ++ [(at', p)]).map (·.2) = pre.map (·.2) ++ [pb.data.toList]) := by show _ = _; rw [HP.out]; simp
    generalize pre.map (·.2) = l at *
    clear hpb hpre HI0 hC2 hS2
    gi_wp2_with (gi_at_builtin; refine wpListIn_append_own _ rfl _ _ 24 rfl (w2.heap.size + 8) 9 i0 (.string ⟨#[]⟩) 1 16 Try.underlying24 hi hz0 hz1 hz2 rfl (by decide) _ _ _ rfl (hrow.alloc _) ⟨V.heap.size, 0, none⟩ 1 1 [.string pb] rfl rfl ?c1 ?c2 ?c3 ?c4 ?c5 ?_)
    case c1 =>
      intro j u hj
      match j, hj with
      | 0, hj => simp at hj; subst hj; simp [Addr.add]
    case c2 => intro u hu; simp at hu; subst hu; rfl
    case c3 => unfold maxLen; omega
    case c4 => omega
    case c5 => simp; omega
    intro v' w5 hown1 hgrow _
    have hss := HS.out
    obtain ⟨hv1, hv2, hr2, hk2⟩ := box_appended (p := fun k => k = w2.heap.size ∨ k = w2.heap.size + 1 ∨ ((k = bc ∨ k = bc + 1) ∨ (w2.heap.size + 2 ≤ k ∧ k < w2.heap.size + 2 + 6))) hv (by omega) hrow hown1 hgrow (fun k hk => by omega)
    obtain ⟨_, _, _, hk3⟩ := box_appended (p := fun k => k < w.heap.size) hv (by omega) hrow hown1 hgrow (fun k hk => by omega)
    have HK2 : Hid (Kept (fun k => k = w2.heap.size ∨ k = w2.heap.size + 1 ∨ ((k = bc ∨ k = bc + 1) ∨ (w2.heap.size + 2 ≤ k ∧ k < w2.heap.size + 2 + 6))) V (w5.setCell ⟨bl, 0, none⟩ v')) := hk2
    have HB5 : Hid (Below w.heap.size w (w5.setCell ⟨bl, 0, none⟩ v')) := hbel.trans (hk3.below hbel.size (fun k hk => hk))
    obtain ⟨g', cap', rfl⟩ := ownsRow_succ hown1
    have hc1 := hv1.cell
    have hf1 := hv1.frozen
    have HR : Hid ((w5.setCell ⟨bl, 0, none⟩ (.slice (some ⟨g', 0, none⟩) (l.length + 1) cap')).ownsRow (w2.heap.size + 8) 9 1 (.slice (some ⟨g', 0, none⟩) (l.length + 1) cap') (l ++ [pb.data.toList]).length ((l ++ [pb.data.toList]).map Sv)) := by
      have := hr2
      simpa [Sv, Hid] using this
    have HV : Hid (Boxed (w5.setCell ⟨bl, 0, none⟩ (.slice (some ⟨g', 0, none⟩) (l.length + 1) cap')) bl 24 (.slice (some ⟨g', 0, none⟩) (l.length + 1) cap')) := hv2
    clear hss hk2 hk3 hr2 hv2 hown1 hgrow hv1 hbel hrow hv hvc
    gi_wp2_with fail
    exact ⟨HK2.out, by show Got _ _ _ _ ((pre ++ [(at', p)]).map (·.2)) _; rw [HPE.out]; exact ⟨⟨_, HV.out, HR.out⟩, HB5.out⟩⟩
  case done =>
    intro V hV hg hK
    clear hL
    rw [Ck.withAt_snd] at hg
    obtain ⟨⟨v, hv, hrow⟩, hbel⟩ := hg
    have hvc := hv.cell
    have HR : Hid (V.ownsRow (w2.heap.size + 8) 9 1 v L.length (L.map Sv)) := hrow
    have HB : Hid (Below w.heap.size w V) := hbel
    have HK : Hid (V.heap[w2.heap.size]? = some (Obj.deferred (some []))) := hK
    rcases hrow.2 with ⟨rfl, h0⟩ | ⟨g, cap, cur, rfl, _⟩
    · clear hrow hbel hK hv HI0 hC2 hS2
      gi_wp2_with fail
      refine ⟨by simp, .inl ⟨_, _, rfl, run_takeDeferred HK.out, ?_⟩⟩
      have z := HS.out
      refine ⟨_, results_tmp2 rfl _ _ _, _, rfl, own_lower (own_kept HR.out ((Kept.refl (fun k => k ≠ w2.heap.size) _).putObj (fun h => h rfl) _) (fun g hg => by omega)) (by omega), HB.out.trans (((Kept.refl (fun k => k ≠ w2.heap.size) _).putObj (fun h => h rfl) _).below HB.out.size (fun k hk => by omega))⟩
    · clear hrow hbel hK hv HI0 hC2 hS2
      gi_wp2_with fail
      refine ⟨by simp, .inl ⟨_, _, rfl, run_takeDeferred HK.out, ?_⟩⟩
      have z := HS.out
      refine ⟨_, results_tmp2 rfl _ _ _, _, rfl, own_lower (own_kept HR.out ((Kept.refl (fun k => k ≠ w2.heap.size) _).putObj (fun h => h rfl) _) (fun g hg => by omega)) (by omega), HB.out.trans (((Kept.refl (fun k => k ≠ w2.heap.size) _).putObj (fun h => h rfl) _).below HB.out.size (fun k hk => by omega))⟩
  case stop =>
    intro c pre V _ _ h _
    exact h.elim
set_option maxHeartbeats 1000000 in
theorem cut_no (mn mx bt : Int) (s : ByteArray) (w : World) (k : Int) (hk : sizeN mn mx bt s.size = k) (h0 : k ≠ 0) :
    Calls Try.prog 6 #[cutV mn mx bt, .string s] w fun e w' => e = .returned (.tuple #[.slice none 0 0, .int .i64 k]) ∧ Below w.heap.size w w' := by
  have hsz := size_any mn mx bt s.size
  rw [hk] at hsz
  have hq : (k != 0) = true := by rw [bne_iff_ne]; exact h0
  clear hk
  unfold cutV at hsz ⊢
  go_enter Try.func6, Try.ntmps6
  go_wp2_with fail
  refine (hsz _).mono ?_
  rintro e w1 ⟨rfl, hb1⟩
  have hB1 := below_past hb1
  clear hb1
  go_wp2_with fail
  go_ret2
  exact ⟨rfl, hB1⟩
theorem cutL_le (mn mx bt : Nat) (h1 : 1 ≤ mn) (hm : mn ≤ mx) (s : ByteArray) (hs : s.size ≤ 4096) : (Ck.cut (Ck.ends mn mx bt Rl.ofL) s.data.toList).length ≤ 4096 := by
  have hj := congrArg List.length (Ck.cut_join (E := Ck.ends mn mx bt Rl.ofL) s.data.toList)
  rw [← Lib.size_eq] at hj
  have hp := fun j hj => Ck.cut_size (mn := mn) (mx := mx) (bits := bt) (sum := Rl.ofL) (by omega) hm s.data.toList (j := j) hj
  generalize Ck.cut (Ck.ends mn mx bt Rl.ofL) s.data.toList = l at *
  have key : ∀ l : List Ck.Bs, (∀ p ∈ l, 1 ≤ p.length) → l.length ≤ l.flatten.length := by
    intro l
    induction l with
    | nil => intro _; simp
    | cons p l ih =>
      intro h
      have a := ih (fun p hp => h p (List.mem_cons_of_mem _ hp))
      have b := h p (List.mem_cons_self)
      rw [List.flatten_cons, List.length_append, List.length_cons]; omega
  have := key l (fun p hm => by
    obtain ⟨j, hj, rfl⟩ := List.mem_iff_getElem.1 hm
    exact (hp j hj).1)
  omega
theorem cut_any (mn mx bt : Int) (s : ByteArray) (w : World) :
    Calls Try.prog 6 #[cutV mn mx bt, .string s] w fun e w' => ∃ v, e = .returned (.tuple #[v, .int .i64 (sizeN mn mx bt s.size)]) ∧
      w'.ownsRow w.heap.size 9 1 v (cutL mn mx bt s).length ((cutL mn mx bt s).map Sv) ∧ Below w.heap.size w w' := by
  by_cases h : sizeN mn mx bt s.size = 0
  · obtain ⟨hO, hs⟩ := sizeN_zero.1 h
    rw [cutL, if_pos h, h]
    obtain ⟨mn, rfl⟩ := Int.eq_ofNat_of_zero_le (show 0 ≤ mn by have := hO.1; omega)
    obtain ⟨mx, rfl⟩ := Int.eq_ofNat_of_zero_le (show 0 ≤ mx by have := hO.1; have := hO.2.1; omega)
    obtain ⟨bt, rfl⟩ := Int.eq_ofNat_of_zero_le (show 0 ≤ bt by have := hO.2.2.2.1; omega)
    simp only [Int.toNat_natCast]
    exact cut_ok mn mx bt hO s (by omega) w _ rfl (cutL_le mn mx bt (by have := hO.1; omega) (by have := hO.2.1; omega) s (by omega))
  · rw [cutL, if_neg h]
    refine (cut_no mn mx bt s w _ rfl h).mono ?_
    rintro e w' ⟨rfl, hb⟩
    exact ⟨_, rfl, World.ownsRow_nil _ _ _ _, hb⟩
end Go.Proofs.Ytdalpicpkandcab
