/-
  lumref: what Pattern answers.
  lumref: what partFits answers.
  lumref: what Pattern and Fits answer.
  lumref: what Match answers.
-/
import Derived.Test.YtfcnlfblfennaaaDoorRgCl
import Derived.Test.YtfcnlfblfennaaaDoorRnCut
import Derived.Test.YtfcnlfblfennaaaDoorRnName
import Derived.Test.YtfcnlfblfennaaaDoorGlAll
import Derived.Test.YtfcnlfblfennaaaDoorGlTakeS
import Derived.Test.YtfcnlfblfennaaaDoorRnPath
namespace Go.Proofs.YtfcnlfblfennaaaDoor
open Go.RowKit
set_option maxRecDepth 4000

/-- a part as it lies in memory (none: any names) -/
def PmR (w : World) (p : Option (List (Option Gb.Tst))) (c : List Value) : Prop :=
  match p with
  | none => c = [.slice none 0 0]
  | some m => ∃ a n k, c = [.slice (some a) n k] ∧ Mks w (.slice (some a) n k) m
abbrev Pms (w : World) (v : Value) (l : List (Option (List (Option Gb.Tst)))) : Prop := Ry 1 45 PmR w v l
theorem PmR.kt {T : TypeId} {w W : World} {p : Option (List (Option Gb.Tst))} {c : List Value} (hk : Kt T w W) (h1 : 71 ≠ T) (h2 : T ≠ 4) (h3 : T ≠ 3) (h4 : T ≠ 41) (h : PmR w p c) : PmR W p c := by
  cases p with
  | none => exact h
  | some m =>
    obtain ⟨a, n, k, e, q⟩ := h
    exact ⟨a, n, k, e, Ry.kt q hk h1 fun _ _ r => r.gt (Gt.of_kt hk h2 h3 h4)⟩
theorem PmR.below {w W : World} {p : Option (List (Option Gb.Tst))} {c : List Value} (h : PmR w p c) (hb : Below w.heap.size w W) : PmR W p c := PmR.kt (T := 9) (Kt.of_below hb) (by decide) (by decide) (by decide) (by decide) h
theorem Pms.below {w W : World} {v : Value} {l : List (Option (List (Option Gb.Tst)))} (h : Pms w v l) (hb : Below w.heap.size w W) : Pms W v l := Ry.below h hb fun _ _ q => q.below hb
/-- what Pattern answers -/
def PrOut (p : ByteArray) (w : World) (e : Ending) (w' : World) : Prop :=
  ∃ v, e = .returned (.tuple #[v, .int .i64 (Gb.pat p.data.toList).2]) ∧ Pms w' v (Gb.pat p.data.toList).1 ∧ Below w.heap.size w w' ∧ FewP (Gb.pat p.data.toList).1 ∧ (Gb.pat p.data.toList).1.length ≤ 4194304
theorem info_marks : (Tryd.prog.info? 45).map (fun i => (i.zero, i.size, i.bytes)) = some (some (.slice none 0 0), 1, 24) := by kernel_rfl
theorem rpat_large (p : ByteArray) (w : World) (h : 60 < p.size) : Calls Tryd.prog 9 #[.string p] w fun e w' => e = .returned (.tuple #[.slice none 0 0, .int .i64 2]) ∧ w' = w := by
  have h1 : (60 : Int) < (p.size : Int) := by omega
  go_enter Tryd.func9, Tryd.ntmps9
  go_wp2_with fail
  go_ret2
  exact ⟨rfl, rfl⟩
theorem rpat_no (p : ByteArray) (w : World) (h : p.size ≤ 60) (hh : Nn.chars p.data.toList = none ∨ p.data.toList.head? ≠ some 47) : Calls Tryd.prog 9 #[.string p] w fun e w' => e = .returned (.tuple #[.slice none 0 0, .int .i64 13]) ∧ Below w.heap.size w w' := by
  have hc := rchars_any p w (by omega)
  have HH : Hid (∀ cs, Nn.chars p.data.toList = some cs → p.data.toList.head? ≠ some 47) := fun cs hcs => by
    rcases hh with q | q
    · rw [q] at hcs; cases hcs
    · exact q
  clear hh
  go_enter Tryd.func9, Tryd.ntmps9
  go_wp2_with fail
  refine hc.mono ?_
  rintro e w1 ⟨b1, ⟨hn, rfl⟩ | ⟨l, v, hs, rfl, ho⟩⟩
  · have HB : Hid (Below w.heap.size w w1) := b1
    clear b1 hc hn
    go_wp2_with fail
    go_ret2
    exact ⟨rfl, HB.out⟩
  · have HB : Hid (Below w.heap.size w w1) := b1
    have hh := HH.out l hs
    clear b1 hc ho hs
    by_cases h0 : p.data.toList = []
    · obtain rfl := of_data h0
      go_wp2_with fail
      go_ret2
      exact ⟨rfl, HB.out⟩
    · have e1 : (p.toList == []) = false := data_ne h0
      have hp0 : 0 < p.size := by rw [Lib.size_eq]; exact List.length_pos_iff.2 h0
      have hne : ¬ ((p[0].toNat : Int) = 47) := fun e => hh (by
        have e2 : p[0].toNat = 47 := by omega
        have : p[0] = 47 := UInt8.toNat_inj.1 e2
        rw [List.head?_eq_getElem?, Lib.data_getElem? p 0 hp0, this])
      have hnb : ((p[0].toNat : Int) != 47) = true := by rw [bne_iff_ne]; exact hne
      clear hh h0
      go_wp2_with fail
      go_ret2
      exact ⟨rfl, HB.out⟩

set_option maxHeartbeats 4000000 in
set_option maxRecDepth 10000 in
theorem rpat_parts (p q : ByteArray) (cs : List Nat) (w : World) (h : p.size ≤ 60) (hh : p.data.toList.head? = some 47) (hq : q = p.extract 1 p.size) (hv : Nn.chars q.data.toList = some cs) (hpv : (Nn.chars p.data.toList).isSome = true) :
    Calls Tryd.prog 9 #[.string p] w fun e w' => Below w.heap.size w w' ∧ ((Gb.parts (Nn.cut q.data.toList) = none ∧ e = .returned (.tuple #[.slice none 0 0, .int .i64 13])) ∨
      ∃ v P, Gb.parts (Nn.cut q.data.toList) = some P ∧ e = .returned (.tuple #[v, .int .i64 0]) ∧ Pms w' v P ∧ FewP P ∧ P.length ≤ 4194304) := by
  have h0 : p.data.toList ≠ [] := fun e => by rw [e] at hh; cases hh
  have e1 : (p.toList == []) = false := data_ne h0
  have hp0 : 0 < p.size := by rw [Lib.size_eq]; exact List.length_pos_iff.2 h0
  have hp47 : (p[0].toNat : Int) = 47 := by
    rw [List.head?_eq_getElem?, Lib.data_getElem? p 0 hp0] at hh
    simp only [Option.some.injEq] at hh
    rw [hh]; rfl
  have hnb : ((p[0].toNat : Int) != 47) = false := by rw [hp47]; rfl
  have hqs : q.size ≤ 60 := by rw [hq, ByteArray.size_extract]; omega
  have hc := rchars_any p w (by omega)
  have HPv : Hid ((Nn.chars p.data.toList).isSome = true) := hpv
  have hsp := fun W => rcut_any q.size q W (Nat.le_refl _) (by omega)
  have HPs : Hid (∀ s ∈ Nn.cut q.data.toList, ∃ x, Nn.chars s = some x ∧ x.length ≤ 60) := fun s hs => by
    obtain ⟨x, g1, g2⟩ := Nn.chars_parts _ _ cs (Nat.le_refl _) hv s hs
    have hcl := Nn.chars_count _ _ hv
    rw [← Lib.size_eq] at hcl
    exact ⟨x, g1, by omega⟩
  obtain ⟨i0, hi, hz0, hz1, hz2⟩ := info_is info_marks
  have q1 : (1 : Int) ≤ (p.size : Int) := by omega
  clear hh hv hpv h0 hp47
  go_enter Tryd.func9, Tryd.ntmps9
  go_wp2_with fail
  refine hc.mono ?_
  rintro e w1 ⟨b1, ⟨hn, rfl⟩ | ⟨l0, v0, hs0, rfl, ho0⟩⟩
  · have := HPv.out
    rw [hn] at this
    cases this
  have HB1 : Hid (Below w.heap.size w w1) := b1
  clear hc b1 ho0 hs0
  go_wp2_with fail
  rw [← hq]
  refine (hsp w1).mono ?_
  rintro e w2 ⟨v, l, rfl, hd, hsz, hown, b2⟩
  have hx := Tx.of_own hown
  have HB2 : Hid (Below w.heap.size w w2) := HB1.out.trans (b2.mono HB1.out.size)
  have HX : Hid (Tx w2 v l) := hx
  have HD : Hid (dl l = Nn.cut q.data.toList) := hd
  have HSz : Hid (∀ t ∈ l, t.size ≤ q.size) := hsz
  have hln : l.length ≤ 61 := by
    rw [← dl_length, hd, Nn.cut_count _ _ (Nat.le_refl _)]
    have := List.count_le_length (a := (47 : UInt8)) (l := q.data.toList)
    rw [← Lib.size_eq] at this
    omega
  obtain ⟨a, c, rfl⟩ := hx.slice
  obtain ⟨N, hN⟩ : ∃ N, N = l.length := ⟨_, rfl⟩
  have HN : Hid (N = l.length) := hN
  rw [← hN] at HX hln ⊢
  obtain ⟨Z, hZ⟩ : ∃ Z, Gb.parts (dl l) = Z := ⟨_, rfl⟩
  have HZ : Hid (Gb.parts (Nn.cut q.data.toList) = Z) := by rw [← hZ, HD.out]; rfl
  have HR : Hid ((Gb.parts (dl (l.drop 0))).map (fun x => ([] : List (Option (List (Option Gb.Tst)))) ++ x) = Z) := by
    show _ = _
    rw [List.drop_zero, hZ]; cases Z <;> rfl
  clear hsp b2 hx hd hsz hN hZ HB1 hown hq e1 q1
  generalize p[0].toNat = pz at *
  clear hnb
  go_wp2_with fail
  go_loopw [6, 36] (fun v6 x wr => ∃ (k : Nat) (done : List (Option (List (Option Gb.Tst)))), k ≤ N ∧ x = .int .i64 k ∧ Hid (done.length = k) ∧ Hid (Oy 1 45 PmR w2.heap.size wr v6 done) ∧ Hid (FewP done) ∧ Hid ((Gb.parts (dl (l.drop k))).map (fun x => done ++ x) = Z) ∧ Hid (Below w2.heap.size w2 wr)) (fun _ x _ => N - (intOf x).toNat)
  case atStart => exact ⟨0, [], by omega, rfl, rfl, Oy.nil, FewP.nil, HR, Below.refl _ _⟩
  case round =>
    clear HR
    obtain ⟨k, done, hk, rfl, HDn, HO, HF, HR, HB⟩ := hrel
    have HBw : Hid (Below w.heap.size w wr) := HB2.out.trans (HB.out.mono HB2.out.size)
    by_cases hlt : k < N
    · have hkl : k < l.length := by rw [← HN.out]; exact hlt
      obtain ⟨bk, o, rfl, hbk, ce⟩ := (HX.out.below HB.out).get k hkl
      have hmem : l.getD k ByteArray.empty ∈ l := by
        rw [List.getD_eq_getElem?_getD, List.getElem?_eq_getElem hkl]
        exact List.getElem_mem hkl
      have hdr : dl (l.drop k) = (l.getD k ByteArray.empty).data.toList :: dl (l.drop (k + 1)) := by
        rw [List.getD_eq_getElem?_getD, List.getElem?_eq_getElem hkl, List.drop_eq_getElem_cons hkl]
        rfl
      generalize l.getD k ByteArray.empty = t at *
      obtain ⟨x, hx1, hx2⟩ := HPs.out t.data.toList (by rw [← HD.out]; exact List.mem_map_of_mem hmem)
      have hts := HSz.out t hmem
      have hpa := Gb.part_sgs hx1
      have HSt : Hid (Z = match Gb.part t.data.toList with | none => none | some y => ((Gb.parts (dl (l.drop (k + 1)))).map (y :: ·)).map fun z => done ++ z) := by
        show _ = _
        rw [← HR.out, hdr, Gb.parts_cons]
        cases Gb.part t.data.toList <;> rfl
      have HFt : Hid (∀ m, Gb.part t.data.toList = some (some m) → m.length ≤ 4194304 ∧ FewS m) := fun m hm => few_part hx1 (by omega) hm
      have hdl : done.length ≤ 4194304 := by have := HDn.out; omega
      clear hmem hdr HR
      by_cases hss : t.data.toList = [42, 42]
      · rw [if_pos hss] at hpa
        have HE : Hid (((Gb.parts (dl (l.drop (k + 1)))).map (none :: ·)).map (fun z => done ++ z) = Z) := by
          show _ = _
          rw [HSt.out, hpa]
        have HFn : Hid (FewP (done ++ [none])) := fun m hm => by
          rcases List.mem_append.1 hm with e | e
          · exact HF.out m e
          · rw [List.mem_singleton] at e; cases e
        obtain rfl := of_data hss
        obtain ⟨cc, o1, o2, o3, o4⟩ := HO.out
        have HO2 : Hid ((∀ c ∈ cc, c.length = 1) ∧ cc.length = done.length ∧ ∀ (j : Nat) t c, done[j]? = some t → cc[j]? = some c → PmR wr t c) := ⟨o2, o3, o4⟩
        have HB3 : Hid (Below w2.heap.size w2 wr) := HB.out
        have hsw := HB.out.size
        clear HSt hpa hss o2 o3 o4 HO HF HFt hx1 hx2 hts
        go_wp2_with (at_builtin; refine wpList_append_own _ rfl (.tmp 42) (.tmp 43) 22 rfl w2.heap.size 45 i0 (.slice none 0 0) 1 24 Tryd.underlying22 hi hz0 hz1 hz2 rfl (by decide) _ _ _ rfl (o1.alloc _) ⟨wr.heap.size, 0, none⟩ 1 1 [.slice none 0 0] rfl rfl ?c1 ?c2 ?c3 ?c4 ?c5 ?_)
        case c1 =>
          intro j u hj
          match j, hj with
          | 0, hj => simp at hj; subst hj; simp [Addr.add]
        case c2 => intro u hu; simp at hu; subst hu; rfl
        case c3 => unfold maxLen; omega
        case c4 => omega
        case c5 => simp; omega
        intro v6 w4 hown4 hgrow _
        have hk4 : Kt 45 wr w4 := ((Kt.refl _ _).alloc _).trans (Kt.of_grown hgrow fun g hg => by
          obtain ⟨cur, q, _⟩ := own_block (o1.alloc _) hg
          exact ⟨cur, _, q⟩)
        have HB4 : Hid (Below w2.heap.size w2 w4) := (HB3.out.alloc HB3.out.size _).grown hgrow (by simp; omega) fun g hg => by
          obtain ⟨_, _, q, _⟩ := own_block o1 hg
          exact q
        have HOn : Hid (Oy 1 45 PmR w2.heap.size w4 v6 (done ++ [none])) := Oy.more HO2.out.1 HO2.out.2.1 (fun j t c a b => PmR.kt hk4 (by decide) (by decide) (by decide) (by decide) (HO2.out.2.2 j t c a b)) hown4 rfl (rfl)
        clear hown4 hgrow hk4 o1 HO2 
        go_wp2_with fail
        go_roundw
        case measure => simp only [intOf]; omega
        case rel =>
          refine ⟨k + 1, done ++ [none], by omega, by go_num, ?_, HOn, HFn, ?_, HB4⟩
          · show _ = _
            rw [List.length_append, List.length_singleton, HDn.out]
          · show _ = _
            rw [← HE.out]
            cases Gb.parts (dl (l.drop (k + 1))) <;> simp
      · rw [if_neg hss] at hpa
        have e2 : (t.toList == [42, 42]) = false := data_ne hss
        have hch := rchars_any t wr (by omega)
        have HC : Hid (Nn.chars t.data.toList = some x ∧ x.length ≤ 60) := ⟨hx1, hx2⟩
        have HPa : Hid (Gb.part t.data.toList = (Gb.sgs x).bind fun m => if m = [] then none else some (some m)) := hpa
        clear hpa hss hx1 hx2 hts
        go_wp2_with fail
        refine hch.mono ?_
        rintro e w5 ⟨b5, ⟨hn, rfl⟩ | ⟨l5, v5, hs5, rfl, ho5⟩⟩
        · have := HC.out.1
          rw [hn] at this
          cases this
        obtain rfl : x = l5 := Option.some.inj (HC.out.1.symm.trans hs5)
        have hnx : Nx w5 v5 x := (nt_of_own (base := wr.heap.size) ho5).nx
        have hmk := marks_any v5 x w5 hnx (by have := HC.out.2; omega)
        have HB5 : Hid (Below w2.heap.size w2 w5) := HB.out.trans (b5.mono HB.out.size)
        have HO5 : Hid (Oy 1 45 PmR w2.heap.size w5 u6 done) := HO.out.below b5 fun _ _ q => q.below b5
        obtain ⟨a5, c5, rfl⟩ := hnx.slice
        generalize x.length = nx at hmk ⊢
        clear hch b5 ho5 hs5 hnx HO
        go_wp2_with fail
        refine hmk.mono ?_
        rintro e w6 ⟨b6, ⟨hn, rfl⟩ | ⟨m, v6, hm, rfl, hMk, hnn⟩⟩
        · have HE : Hid (Gb.parts (Nn.cut q.data.toList) = none) := by
            show _ = _
            rw [HZ.out, HSt.out, HPa.out, hn]; rfl
          have HB6 : Hid (Below w.heap.size w w6) := HB2.out.trans ((HB5.out.trans (b6.mono HB5.out.size)).mono HB2.out.size)
          clear hmk b6 hn HSt
          go_wp2_with fail
          go_ret2
          exact ⟨HB6.out, .inl ⟨HE.out, rfl⟩⟩
        · have HB3 : Hid (Below w2.heap.size w2 w6) := HB5.out.trans (b6.mono HB5.out.size)
          have HBw6 : Hid (Below w.heap.size w w6) := HB2.out.trans (HB3.out.mono HB2.out.size)
          by_cases hm0 : m = []
          · have HE : Hid (Gb.parts (Nn.cut q.data.toList) = none) := by
              show _ = _
              rw [HZ.out, HSt.out, HPa.out, hm, Option.bind_some, if_pos hm0]
            have hd0 : decide (m ≠ []) = false := decide_eq_false (by simpa using hm0)
            rw [hd0]
            clear hmk b6 hm HSt hMk hnn hm0 hd0
            go_wp2_with fail
            go_ret2
            exact ⟨HBw6.out, .inl ⟨HE.out, rfl⟩⟩
          · have HE : Hid (((Gb.parts (dl (l.drop (k + 1)))).map (some m :: ·)).map (fun z => done ++ z) = Z) := by
              show _ = _
              rw [HSt.out, HPa.out, hm, Option.bind_some, if_neg hm0]
            have HFn : Hid (FewP (done ++ [some m])) := fun m' hm' => by
              rcases List.mem_append.1 hm' with e | e
              · exact HF.out m' e
              · rw [List.mem_singleton] at e
                cases e
                exact HFt.out m (by rw [HPa.out, hm, Option.bind_some, if_neg hm0])
            have hd0 : decide (m ≠ []) = true := decide_eq_true hm0
            obtain ⟨ma, mn, mc, rfl⟩ := hnn hm0
            have HMk : Hid (Mks w6 (.slice (some ma) mn mc) m) := hMk
            rw [hd0]
            obtain ⟨cc, o1, o2, o3, o4⟩ := HO5.out.below b6 fun _ _ q => q.below b6
            have HO2 : Hid ((∀ c ∈ cc, c.length = 1) ∧ cc.length = done.length ∧ ∀ (j : Nat) t c, done[j]? = some t → cc[j]? = some c → PmR w6 t c) := ⟨o2, o3, o4⟩
            have hsw := HB3.out.size
            clear hmk b6 hm HSt hMk hnn hm0 hd0 o2 o3 o4 HO5 HF HFt
            go_wp2_with (at_builtin; refine wpList_append_own _ rfl (.tmp 57) (.tmp 59) 22 rfl w2.heap.size 45 i0 (.slice none 0 0) 1 24 Tryd.underlying22 hi hz0 hz1 hz2 rfl (by decide) _ _ _ rfl (o1.alloc _) ⟨w6.heap.size, 0, none⟩ 1 1 [.slice (some ma) mn mc] rfl rfl ?d1 ?d2 ?d3 ?d4 ?d5 ?_)
            case d1 =>
              intro j u hj
              match j, hj with
              | 0, hj => simp at hj; subst hj; simp [Addr.add]
            case d2 => intro u hu; simp at hu; subst hu; rfl
            case d3 => unfold maxLen; omega
            case d4 => omega
            case d5 => simp; omega
            intro v6 w4 hown4 hgrow _
            have hk4 : Kt 45 w6 w4 := ((Kt.refl _ _).alloc _).trans (Kt.of_grown hgrow fun g hg => by
              obtain ⟨cur, q, _⟩ := own_block (o1.alloc _) hg
              exact ⟨cur, _, q⟩)
            have HB4 : Hid (Below w2.heap.size w2 w4) := (HB3.out.alloc HB3.out.size _).grown hgrow (by simp; omega) fun g hg => by
              obtain ⟨_, _, q, _⟩ := own_block o1 hg
              exact q
            have HOn : Hid (Oy 1 45 PmR w2.heap.size w4 v6 (done ++ [some m])) := Oy.more HO2.out.1 HO2.out.2.1 (fun j t c a b => PmR.kt hk4 (by decide) (by decide) (by decide) (by decide) (HO2.out.2.2 j t c a b)) hown4 rfl (⟨_, _, _, rfl, Ry.kt HMk.out hk4 (by decide) fun _ _ r => r.gt (Gt.of_kt hk4 (by decide) (by decide) (by decide))⟩)
            clear hown4 hgrow hk4 o1 HO2 HMk
            go_wp2_with fail
            go_roundw
            case measure => simp only [intOf]; omega
            case rel =>
              refine ⟨k + 1, done ++ [some m], by omega, by go_num, ?_, HOn, HFn, ?_, HB4⟩
              · show _ = _
                rw [List.length_append, List.length_singleton, HDn.out]
              · show _ = _
                rw [← HE.out]
                cases Gb.parts (dl (l.drop (k + 1))) <;> simp
    · obtain rfl : k = N := by omega
      have HE : Hid (Gb.parts (Nn.cut q.data.toList) = some done) := by
        show _ = _
        rw [HZ.out, ← HR.out, List.drop_eq_nil_of_le (by rw [HN.out]; exact Nat.le_refl _)]
        show some (done ++ []) = _
        rw [List.append_nil]
      have HP : Hid (Pms wr u6 done) := HO.out.ry
      have HLe : Hid (done.length ≤ 4194304) := by show _ ≤ _; have := HDn.out; omega
      clear HR HO
      go_wp2_with fail
      go_ret2
      exact ⟨HBw.out, .inr ⟨_, done, HE.out, rfl, HP.out, HF.out, HLe.out⟩⟩
end Go.Proofs.YtfcnlfblfennaaaDoor

namespace Go.Proofs.YtfcnlfblfennaaaDoor
open Go.RowKit

set_option maxRecDepth 10000 in
theorem pf1_any (b2 i : Nat) (v : Value) (m : List (Option Gb.Tst)) (w : World) (hb : w.cell? ⟨b2, 0, none⟩ = some v) (hm : Mks w v m) (hi : i < m.length) :
    Calls Tryd.prog 65 #[.int .i64 i, Pt b2] w fun e w' => e = .returned (.bool (Gb.anyOf m i)) ∧ w' = w := by
  obtain ⟨a, c, rfl⟩ := hm.slice
  obtain ⟨bk, o, cs, rfl, hbk, hcl, hR, hcell⟩ := hm.get i m[i] (List.getElem?_eq_getElem hi)
  have hx : ∃ f, cs = [.bool (Gb.anyOf m i), f] := by
    have e : Gb.anyOf m i = m[i].isNone := by rw [Gb.anyOf, List.getD_eq_getElem?_getD, List.getElem?_eq_getElem hi]; rfl
    rw [e]
    cases hmi : m[i] with
    | none => rw [hmi] at hR; exact ⟨_, hR⟩
    | some t => rw [hmi] at hR; obtain ⟨f, caps, h, _⟩ := hR; exact ⟨_, h⟩
  obtain ⟨f, rfl⟩ := hx
  have d0 : w.cell? ⟨bk, o + i * 2, none⟩ = some (.bool (Gb.anyOf m i)) := hcell 0 _ rfl
  have q0 : (i : Int) < (m.length : Int) := by omega
  clear hcell hR hcl hm
  generalize Gb.anyOf m i = ans at *
  generalize m.length = n at *
  unfold Pt
  go_enter Tryd.func65, Tryd.ntmps65
  go_wp2_with fail
  go_ret
  exact ⟨rfl, rfl⟩

set_option maxRecDepth 10000 in
set_option maxHeartbeats 1000000 in
theorem pf2_any (b2 b5 i k : Nat) (v u : Value) (m : List (Option Gb.Tst)) (cs : List Nat) (t : Gb.Tst) (w : World) (hb : w.cell? ⟨b2, 0, none⟩ = some v) (hm : Mks w v m) (hi : i < m.length) (ht : m[i]? = some (some t))
    (hc : w.cell? ⟨b5, 0, none⟩ = some u) (hn : Nx w u cs) (hk : k < cs.length) :
    Calls Tryd.prog 66 #[.int .i64 i, .int .i64 k, Pt b2, Pt b5] w fun e w' => e = .returned (.bool (Gb.one t (cs.getD k 0))) ∧ Below w.heap.size w w' := by
  obtain ⟨a, c, rfl⟩ := hm.slice
  obtain ⟨bk, o, cs', rfl, hbk, hcl', hR, hcell⟩ := hm.get i (some t) ht
  obtain ⟨g, caps, rfl, hFn⟩ := hR
  obtain ⟨g', caps', eg, hent, hcall⟩ := hFn
  cases eg
  obtain ⟨al, cl, rfl⟩ := hn.slice
  obtain ⟨bl, ol, rfl, hbl, _, ce⟩ := hn.get k hk
  have hlt2 := World.block_lt_of_cell? w _ hb
  have hlt5 := World.block_lt_of_cell? w _ hc
  obtain ⟨M, hM⟩ : ∃ M, M = m.length := ⟨_, rfl⟩
  obtain ⟨L, hL⟩ : ∃ L, L = cs.length := ⟨_, rfl⟩
  rw [← hM] at hb hi
  rw [← hL] at hc hk
  generalize cs.getD k 0 = x at *
  generalize hans : Gb.one t x = ans
  have H1 : Hid (∀ W, Gw w W → W.cell? ⟨b2, 0, none⟩ = some (.slice (some ⟨bk, o, none⟩) M c)) := fun W hW => (Below.cell hW (p := ⟨b2, 0, none⟩) hlt2).trans hb
  have H2 : Hid (∀ W, Gw w W → W.cell? ⟨bk, o + i * 2 + 1, none⟩ = some (.func (.func g) #[] caps)) := fun W hW => (Below.cell hW (p := ⟨bk, o + i * 2 + 1, none⟩) hbk).trans (hcell 1 _ rfl)
  have H3 : Hid (∀ W, Gw w W → W.cell? ⟨b5, 0, none⟩ = some (.slice (some ⟨bl, ol, none⟩) L cl)) := fun W hW => (Below.cell hW (p := ⟨b5, 0, none⟩) hlt5).trans hc
  have H4 : Hid (∀ W, Gw w W → W.cell? ⟨bl, ol + k, none⟩ = some (.int .i64 x)) := fun W hW => (Below.cell hW (p := ⟨bl, ol + k, none⟩) hbl).trans ce
  have H5 : Hid (∀ W, Gw w W → Calls Tryd.prog g (#[.int .i64 x] ++ caps) W fun e w' => e = .returned (.bool ans) ∧ w' = W) := fun W hW => by
    have := hcall W (Gt.of_below hW) x
    rwa [hans] at this
  unfold Ent at hent
  have q0 : (i : Int) < (M : Int) := by omega
  have q1 : (k : Int) < (L : Int) := by omega
  clear hcell hcl' hcall ce hb hc hm hn ht hM hL hans
  unfold Pt
  go_enter Tryd.func66, Tryd.ntmps66
  go_wp2_with fail
  refine wp_region_rel_tail (G := Gw) (W0 := w) 10 6 Gw.refl Gw.trans (by kernel_rfl) (by decide) (by kernel_rfl) (by kernel_rfl) (.inr (by kernel_rfl)) (Below.refl _ w).drew ?_
  refine .inl ⟨.slice (some ⟨bk, o, none⟩) M c, fun v W hW hd => step_run rfl _ W (by clear hd; have ce := H1.out W hW; go_simp) rfl (Gw.refl _), ?_⟩
  simp only [Act.put, List.setIfInBounds_toArray, List.set_cons_zero, List.set_cons_succ]
  refine .inl ⟨.int .i64 i, fun v W hW hd => step_run rfl _ W (by clear hd; go_simp) rfl (Gw.refl _), ?_⟩
  simp only [Act.put, List.setIfInBounds_toArray, List.set_cons_zero, List.set_cons_succ]
  refine .inl ⟨.pointer (some ⟨bk, o + i * 2, none⟩), fun v W hW hd => step_run rfl _ W (by clear hd; go_simp) rfl (Gw.refl _), ?_⟩
  simp only [Act.put, List.setIfInBounds_toArray, List.set_cons_zero, List.set_cons_succ]
  refine .inl ⟨.pointer (some ⟨bk, o + i * 2 + 1, none⟩), fun v W hW hd => step_run rfl _ W (by clear hd; go_simp) rfl (Gw.refl _), ?_⟩
  simp only [Act.put, List.setIfInBounds_toArray, List.set_cons_zero, List.set_cons_succ]
  refine .inl ⟨.func (.func g) #[] caps, fun v W hW hd => step_run rfl _ W (by clear hd; have ce := H2.out W hW; go_simp) rfl (Gw.refl _), ?_⟩
  simp only [Act.put, List.setIfInBounds_toArray, List.set_cons_zero, List.set_cons_succ]
  refine .inl ⟨.slice (some ⟨bl, ol, none⟩) L cl, fun v W hW hd => step_run rfl _ W (by clear hd; have ce := H3.out W hW; go_simp) rfl (Gw.refl _), ?_⟩
  simp only [Act.put, List.setIfInBounds_toArray, List.set_cons_zero, List.set_cons_succ]
  refine .inl ⟨.int .i64 k, fun v W hW hd => step_run rfl _ W (by clear hd; go_simp) rfl (Gw.refl _), ?_⟩
  simp only [Act.put, List.setIfInBounds_toArray, List.set_cons_zero, List.set_cons_succ]
  refine .inl ⟨.pointer (some ⟨bl, ol + k, none⟩), fun v W hW hd => step_run rfl _ W (by clear hd; go_simp) rfl (Gw.refl _), ?_⟩
  simp only [Act.put, List.setIfInBounds_toArray, List.set_cons_zero, List.set_cons_succ]
  refine .inl ⟨.int .i64 x, fun v W hW hd => step_run rfl _ W (by clear hd; have ce := H4.out W hW; go_simp) rfl (Gw.refl _), ?_⟩
  simp only [Act.put, List.setIfInBounds_toArray, List.set_cons_zero, List.set_cons_succ]
  refine .inl ⟨.bool ans, fun v W hW hd => ?_, ?_⟩
  · clear hd
    refine step_call (f := g) (args := #[.int .i64 x] ++ caps) rfl ?_ ?_
    · have ce := hent (#[.int .i64 x] ++ caps) W
      simp [execOp, resolve, invoke, Deferred.ofValue, Act.eval, ce]
    · refine Calls.mono (H5.out W hW) ?_
      intro e w' h
      refine ⟨.bool ans, h.1, ?_, ?_⟩
      · first | rfl | trivial
      · rw [h.2]; exact Gw.refl _
  simp only [Act.put, List.setIfInBounds_toArray, List.set_cons_zero, List.set_cons_succ]
  intro v W hW hV
  clear hV
  have HB : Hid (Below w.heap.size w W) := hW
  refine wpAny_ready (rs := [10]) (by kernel_rfl) (by simp) ?_
  refine AllReady.cons rfl (fun K hK => ?_) AllReady.nil
  rw [if_pos (by rfl)]
  go_simp
  refine hK _ _ ?_
  clear hK K
  refine wpAny_done (by kernel_rfl) ?_ _
  go_wp2_with fail
  go_ret
  exact ⟨rfl, HB.out⟩

set_option maxRecDepth 10000 in
set_option maxHeartbeats 1000000 in
theorem partFits_any (v : Value) (m : List (Option Gb.Tst)) (s : ByteArray) (cs : List Nat) (w : World) (hm : Mks w v m) (hl : m.length ≤ 4194304) (hs : s.size ≤ 4194304) (hc : Nn.chars s.data.toList = some cs) :
    Calls Tryd.prog 50 #[v, .string s] w fun e w' => e = .returned (.bool (Gb.nameFit m s.data.toList)) ∧ Below w.heap.size w w' := by
  obtain ⟨W0, hW0⟩ : ∃ W0, W0 = w.alloc (.cells #[v] 45) := ⟨_, rfl⟩
  have HB0 : Hid (Below w.heap.size w W0) := by rw [hW0]; exact (Below.refl _ w).alloc (Nat.le_refl _) _
  have HM0 : Hid (W0.heap[w.heap.size]? = some (.cells #[v] 45 (0, 0))) := by rw [hW0]; exact heap_alloc_new w _
  have hch := rchars_any s W0 hs
  have HC : Hid (Nn.chars s.data.toList = some cs) := hc
  have HN : Hid (Gb.nameFit m s.data.toList = Gb.fit Gb.one m cs) := by
    show _ = _
    unfold Gb.nameFit
    rw [hc]; rfl
  have HMk : Hid (Mks w v m) := hm
  have HLs : Hid (cs.length ≤ 4194304) := by
    have := Nn.chars_count _ _ hc
    rw [← Lib.size_eq] at this
    show _ ≤ _
    omega
  obtain ⟨a, c, rfl⟩ := hm.slice
  obtain ⟨b2, hb2⟩ : ∃ b2, b2 = w.heap.size := ⟨_, rfl⟩
  rw [← hb2] at HM0
  clear hc hm
  go_enter Tryd.func50, Tryd.ntmps50
  go_upto_region 1 with fail
  rw [← hW0, ← hb2]
  clear hW0 hb2
  go_wp2_with fail
  refine hch.mono ?_
  rintro e w1 ⟨b1, ⟨hn, rfl⟩ | ⟨l, u, hs1, rfl, ho⟩⟩
  · have := HC.out
    rw [hn] at this
    cases this
  obtain rfl : cs = l := Option.some.inj (HC.out.symm.trans hs1)
  have hnx : Nx w1 u cs := (nt_of_own (base := W0.heap.size) ho).nx
  obtain ⟨W2, hW2⟩ : ∃ W2, W2 = w1.alloc (.cells #[u] 41) := ⟨_, rfl⟩
  have hB1 : Below w.heap.size w w1 := HB0.out.trans (b1.mono HB0.out.size)
  have hB2 : Below w1.heap.size w1 W2 := by rw [hW2]; exact (Below.refl _ w1).alloc (Nat.le_refl _) _
  have HB2 : Hid (Below w.heap.size w W2) := hB1.trans (hB2.mono hB1.size)
  have HM2 : Hid (W2.heap[b2]? = some (.cells #[.slice a m.length c] 45 (0, 0))) := (hB2.block _ (by have := (Array.getElem?_eq_some_iff.1 HM0.out).1; have := b1.size; omega)).trans ((b1.block _ (Array.getElem?_eq_some_iff.1 HM0.out).1).trans HM0.out)
  have HM5 : Hid (W2.heap[w1.heap.size]? = some (.cells #[u] 41 (0, 0))) := by rw [hW2]; exact heap_alloc_new w1 _
  have HX2 : Hid (Nx W2 u cs) := hnx.below hB2
  have hcell2 : W2.cell? ⟨b2, 0, none⟩ = some (.slice a m.length c) := by simp [World.cell?, HM2.out]
  have hcell5 : W2.cell? ⟨w1.heap.size, 0, none⟩ = some u := by simp [World.cell?, HM5.out]
  obtain ⟨au, cu, rfl⟩ := hnx.slice
  have hF1 : Fn1 W2 (.func (.func 65) #[] #[Pt b2]) m.length (Gb.anyOf m) := ⟨_, _, rfl, fun _ _ => by kernel_rfl, fun W hW i hi => by
    refine (pf1_any b2 i (.slice a m.length c) m W ((Below.cell hW (p := ⟨b2, 0, none⟩) (World.block_lt_of_cell? W2 _ hcell2)).trans hcell2) (HMk.out.below (HB2.out.trans (Below.mono hW HB2.out.size))) hi).mono ?_
    rintro e w' ⟨rfl, rfl⟩
    exact ⟨rfl, Below.refl _ _⟩⟩
  have hF2 : Fn2 W2 (.func (.func 66) #[] #[Pt b2, Pt w1.heap.size]) m.length cs.length (Gb.anyOf m) (Gb.oneOf Gb.one m cs) := ⟨_, _, rfl, fun _ _ => by kernel_rfl, fun W hW i k hi hk ha => by
    have hmi : m[i]? = some m[i] := List.getElem?_eq_getElem hi
    have hgd : m.getD i none = m[i] := by rw [List.getD_eq_getElem?_getD, hmi]; rfl
    cases hx : m[i] with
    | none => rw [Gb.anyOf, hgd, hx] at ha; cases ha
    | some t =>
      have hck : cs[k]? = some (cs.getD k 0) := by rw [List.getD_eq_getElem?_getD, List.getElem?_eq_getElem hk]; rfl
      have ho : Gb.oneOf Gb.one m cs i k = Gb.one t (cs.getD k 0) := by rw [Gb.oneOf, hgd, hx, hck]
      rw [ho]
      exact pf2_any b2 w1.heap.size i k (.slice a m.length c) (.slice au cs.length cu) m cs t W ((Below.cell hW (p := ⟨b2, 0, none⟩) (World.block_lt_of_cell? W2 _ hcell2)).trans hcell2) (HMk.out.below (HB2.out.trans (Below.mono hW HB2.out.size))) hi (by rw [hmi, hx]) ((Below.cell hW (p := ⟨w1.heap.size, 0, none⟩) (World.block_lt_of_cell? W2 _ hcell5)).trans hcell5) (HX2.out.below hW) hk⟩
  have ht := table_any cs.length m.length _ _ _ _ W2 hF1 hF2 HLs.out hl
  rw [Gb.tab_of] at ht
  generalize Gb.fit Gb.one m cs = ANS at *
  clear hF1 hF2 hnx hB1 hB2 b1 ho hs1 hch
  unfold Pt at ht
  go_upto_region 2 with fail
  rw [← hW2]
  generalize w1.heap.size = b5 at *
  clear hW2
  go_wp2_with fail
  refine ht.mono ?_
  rintro e w3 ⟨rfl, b3⟩
  have HB3 : Hid (Below w.heap.size w w3) := HB2.out.trans (b3.mono HB2.out.size)
  clear ht b3
  go_wp2_with fail
  go_ret
  exact ⟨by rw [HN.out]; rfl, HB3.out⟩
end Go.Proofs.YtfcnlfblfennaaaDoor

namespace Go.Proofs.YtfcnlfblfennaaaDoor
open Go.RowKit

set_option maxRecDepth 10000 in
theorem rpattern_any (p : ByteArray) (w : World) : Calls Tryd.prog 9 #[.string p] w (PrOut p w) := by
  by_cases h60 : 60 < p.size
  · have hp : Gb.pat p.data.toList = ([], 2) := by
      unfold Gb.pat
      rw [if_pos (by rw [← Lib.size_eq]; exact h60)]
    refine (rpat_large p w h60).mono ?_
    rintro e w' ⟨rfl, rfl⟩
    exact ⟨_, by rw [hp], by rw [hp]; exact Ry.nil _ _, Below.refl _ _, by rw [hp]; exact FewP.nil, by rw [hp]; simp⟩
  have h60' : p.size ≤ 60 := by omega
  have hl60 : ¬ 60 < p.data.toList.length := by rw [← Lib.size_eq]; exact h60
  by_cases hbad : Nn.chars p.data.toList = none ∨ p.data.toList.head? ≠ some 47
  · have hp : Gb.pat p.data.toList = ([], 13) := by
      unfold Gb.pat
      rw [if_neg hl60, if_pos hbad]
    refine (rpat_no p w h60' hbad).mono ?_
    rintro e w' ⟨rfl, b⟩
    exact ⟨_, by rw [hp], by rw [hp]; exact Ry.nil _ _, b, by rw [hp]; exact FewP.nil, by rw [hp]; simp⟩
  · have hh : p.data.toList.head? = some 47 := by
      rcases Decidable.em (p.data.toList.head? = some 47) with q | q
      · exact q
      · exact absurd (.inr q) hbad
    have hc0 : Nn.chars p.data.toList ≠ none := fun e => hbad (.inl e)
    obtain ⟨q, hq⟩ : ∃ q : ByteArray, q = p.extract 1 p.size := ⟨_, rfl⟩
    have hqd : q.data.toList = p.data.toList.tail := by rw [hq, Nn.ext_drop, List.drop_one]
    have hcp : p.data.toList = 47 :: q.data.toList := by rw [hqd]; exact Gb.head_cons hh
    have hch : Nn.chars p.data.toList = (Nn.chars q.data.toList).map (47 :: ·) := by
      rw [hcp, Nn.chars_step _ (by simp), Nn.chr_ascii 47 _ (by decide)]
      rfl
    cases hv : Nn.chars q.data.toList with
    | none => rw [hch, hv] at hc0; exact absurd rfl hc0
    | some cs =>
      have hp : Gb.pat p.data.toList = match Gb.parts (Nn.cut q.data.toList) with | none => ([], 13) | some P => (P, 0) := by
        unfold Gb.pat
        rw [if_neg hl60, if_neg hbad, hqd]
        cases Gb.parts (Nn.cut p.data.toList.tail) <;> rfl
      refine (rpat_parts p q cs w h60' hh hq hv (by rw [hch, hv]; rfl)).mono ?_
      rintro e w' ⟨b, ⟨hn, rfl⟩ | ⟨v, P, hP, rfl, hPt, hF, hL⟩⟩
      · rw [hn] at hp
        exact ⟨_, by rw [hp], by rw [hp]; exact Ry.nil _ _, b, by rw [hp]; exact FewP.nil, by rw [hp]; simp⟩
      · rw [hP] at hp
        exact ⟨_, by rw [hp], by rw [hp]; exact hPt, b, by rw [hp]; exact hF, by rw [hp]; exact hL⟩

set_option maxRecDepth 10000 in
theorem ff1_any (b2 i : Nat) (v : Value) (P : List (Option (List (Option Gb.Tst)))) (w : World) (hb : w.cell? ⟨b2, 0, none⟩ = some v) (hm : Pms w v P) (hi : i < P.length) :
    Calls Tryd.prog 48 #[.int .i64 i, Pt b2] w fun e w' => e = .returned (.bool (Gb.anyOf P i)) ∧ w' = w := by
  obtain ⟨a, c, rfl⟩ := hm.slice
  obtain ⟨bk, o, cs, rfl, hbk, hcl, hR, hcell⟩ := hm.get i P[i] (List.getElem?_eq_getElem hi)
  have qn : ∀ (w : World) (a : Option Addr) (n c n' c' : Nat), (binOp .eql 45 (.slice a n c) (.slice none n' c')).run Tryd.prog w = .ok (.bool a.isNone) w := fun w a n c n' c' => Lib.run_eql_slice_nil w _ _ a n c n' c' Tryd.underlying45
  have hx : ∃ a n k, cs = [.slice a n k] ∧ a.isNone = Gb.anyOf P i := by
    have e : Gb.anyOf P i = P[i].isNone := by rw [Gb.anyOf, List.getD_eq_getElem?_getD, List.getElem?_eq_getElem hi]; rfl
    rw [e]
    cases hmi : P[i] with
    | none => rw [hmi] at hR; exact ⟨_, _, _, hR, rfl⟩
    | some t => rw [hmi] at hR; obtain ⟨a, n, k, h, _⟩ := hR; exact ⟨_, _, _, h, rfl⟩
  obtain ⟨ma, mn, mk, rfl, hn⟩ := hx
  have d0 : w.cell? ⟨bk, o + i, none⟩ = some (.slice ma mn mk) := by
    have := hcell 0 _ rfl
    rwa [Nat.mul_one, Nat.add_zero] at this
  have HE : Hid (ma.isNone = Gb.anyOf P i) := hn
  have q0 : (i : Int) < (P.length : Int) := by omega
  clear hcell hR hcl hm hn
  generalize P.length = n at *
  unfold Pt
  go_enter Tryd.func48, Tryd.ntmps48
  go_wp2_with fail
  go_ret
  exact ⟨by rw [← HE.out]; rfl, rfl⟩

set_option maxRecDepth 10000 in
set_option maxHeartbeats 1000000 in
theorem ff2_any (b2 b5 i k : Nat) (v u : Value) (P : List (Option (List (Option Gb.Tst)))) (l : List ByteArray) (m : List (Option Gb.Tst)) (x : ByteArray) (cs : List Nat) (w : World) (hb : w.cell? ⟨b2, 0, none⟩ = some v) (hm : Pms w v P) (hi : i < P.length) (ht : P[i]? = some (some m)) (hml : m.length ≤ 4194304)
    (hc : w.cell? ⟨b5, 0, none⟩ = some u) (hn : Tx w u l) (hk : l[k]? = some x) (hxs : x.size ≤ 4194304) (hxc : Nn.chars x.data.toList = some cs) :
    Calls Tryd.prog 49 #[.int .i64 i, .int .i64 k, Pt b2, Pt b5] w fun e w' => e = .returned (.bool (fitB m x)) ∧ Below w.heap.size w w' := by
  obtain ⟨a, c, rfl⟩ := hm.slice
  obtain ⟨bk, o, cs', rfl, hbk, hcl', hR, hcell⟩ := hm.get i (some m) ht
  obtain ⟨ma, mn, mk, rfl, hMk⟩ := hR
  obtain ⟨al, cl, rfl⟩ := hn.slice
  have hkl := (List.getElem?_eq_some_iff.1 hk).1
  obtain ⟨bl, ol, rfl, hbl, ce⟩ := hn.get k hkl
  rw [List.getD_eq_getElem?_getD, hk, Option.getD_some] at ce
  have hlt2 := World.block_lt_of_cell? w _ hb
  have hlt5 := World.block_lt_of_cell? w _ hc
  obtain ⟨M, hM⟩ : ∃ M, M = P.length := ⟨_, rfl⟩
  obtain ⟨L, hL⟩ : ∃ L, L = l.length := ⟨_, rfl⟩
  rw [← hM] at hb hi
  rw [← hL] at hc hkl
  generalize hans : fitB m x = ans
  have H1 : Hid (∀ W, Gw w W → W.cell? ⟨b2, 0, none⟩ = some (.slice (some ⟨bk, o, none⟩) M c)) := fun W hW => (Below.cell hW (p := ⟨b2, 0, none⟩) hlt2).trans hb
  have H2 : Hid (∀ W, Gw w W → W.cell? ⟨bk, o + i, none⟩ = some (.slice (some ma) mn mk)) := fun W hW => (Below.cell hW (p := ⟨bk, o + i, none⟩) hbk).trans (by
    have := hcell 0 _ rfl
    rwa [Nat.mul_one, Nat.add_zero] at this)
  have H3 : Hid (∀ W, Gw w W → W.cell? ⟨b5, 0, none⟩ = some (.slice (some ⟨bl, ol, none⟩) L cl)) := fun W hW => (Below.cell hW (p := ⟨b5, 0, none⟩) hlt5).trans hc
  have H4 : Hid (∀ W, Gw w W → W.cell? ⟨bl, ol + k, none⟩ = some (.string x)) := fun W hW => (Below.cell hW (p := ⟨bl, ol + k, none⟩) hbl).trans ce
  have H5 : Hid (∀ W, Gw w W → Calls Tryd.prog 50 #[.slice (some ma) mn mk, .string x] W fun e w' => e = .returned (.bool ans) ∧ Below W.heap.size W w') := fun W hW => by
    have := partFits_any (.slice (some ma) mn mk) m x cs W (hMk.below hW) hml hxs hxc
    rw [← hans]
    exact this
  have q0 : (i : Int) < (M : Int) := by omega
  have q1 : (k : Int) < (L : Int) := by omega
  clear hcell hcl' ce hb hc hm hn ht hM hL hans hMk hk
  unfold Pt
  go_enter Tryd.func49, Tryd.ntmps49
  go_wp2_with fail
  refine wp_region_rel_tail (G := Gw) (W0 := w) 9 6 Gw.refl Gw.trans (by kernel_rfl) (by decide) (by kernel_rfl) (by kernel_rfl) (.inr (by kernel_rfl)) (Below.refl _ w).drew ?_
  refine .inl ⟨.slice (some ⟨bk, o, none⟩) M c, fun v W hW hd => step_run rfl _ W (by clear hd; have ce := H1.out W hW; go_simp) rfl (Gw.refl _), ?_⟩
  simp only [Act.put, List.setIfInBounds_toArray, List.set_cons_zero, List.set_cons_succ]
  refine .inl ⟨.int .i64 i, fun v W hW hd => step_run rfl _ W (by clear hd; go_simp) rfl (Gw.refl _), ?_⟩
  simp only [Act.put, List.setIfInBounds_toArray, List.set_cons_zero, List.set_cons_succ]
  refine .inl ⟨.pointer (some ⟨bk, o + i, none⟩), fun v W hW hd => step_run rfl _ W (by clear hd; go_simp) rfl (Gw.refl _), ?_⟩
  simp only [Act.put, List.setIfInBounds_toArray, List.set_cons_zero, List.set_cons_succ]
  refine .inl ⟨.slice (some ma) mn mk, fun v W hW hd => step_run rfl _ W (by clear hd; have ce := H2.out W hW; go_simp) rfl (Gw.refl _), ?_⟩
  simp only [Act.put, List.setIfInBounds_toArray, List.set_cons_zero, List.set_cons_succ]
  refine .inl ⟨.slice (some ⟨bl, ol, none⟩) L cl, fun v W hW hd => step_run rfl _ W (by clear hd; have ce := H3.out W hW; go_simp) rfl (Gw.refl _), ?_⟩
  simp only [Act.put, List.setIfInBounds_toArray, List.set_cons_zero, List.set_cons_succ]
  refine .inl ⟨.int .i64 k, fun v W hW hd => step_run rfl _ W (by clear hd; go_simp) rfl (Gw.refl _), ?_⟩
  simp only [Act.put, List.setIfInBounds_toArray, List.set_cons_zero, List.set_cons_succ]
  refine .inl ⟨.pointer (some ⟨bl, ol + k, none⟩), fun v W hW hd => step_run rfl _ W (by clear hd; go_simp) rfl (Gw.refl _), ?_⟩
  simp only [Act.put, List.setIfInBounds_toArray, List.set_cons_zero, List.set_cons_succ]
  refine .inl ⟨.string x, fun v W hW hd => step_run rfl _ W (by clear hd; have ce := H4.out W hW; go_simp) rfl (Gw.refl _), ?_⟩
  simp only [Act.put, List.setIfInBounds_toArray, List.set_cons_zero, List.set_cons_succ]
  refine .inl ⟨.bool ans, fun v W hW hd => ?_, ?_⟩
  · clear hd
    refine step_call (f := 50) (args := #[.slice (some ma) mn mk, .string x]) rfl (by kernel_rfl) ?_
    refine Calls.mono (H5.out W hW) ?_
    intro e w' h
    exact ⟨.bool ans, h.1, rfl, h.2⟩
  simp only [Act.put, List.setIfInBounds_toArray, List.set_cons_zero, List.set_cons_succ]
  intro v W hW hV
  clear hV
  have HB : Hid (Below w.heap.size w W) := hW
  refine wpAny_ready (rs := [9]) (by kernel_rfl) (by simp) ?_
  refine AllReady.cons rfl (fun K hK => ?_) AllReady.nil
  rw [if_pos (by rfl)]
  go_simp
  refine hK _ _ ?_
  clear hK K
  refine wpAny_done (by kernel_rfl) ?_ _
  go_wp2_with fail
  go_ret
  exact ⟨rfl, HB.out⟩

set_option maxRecDepth 10000 in
set_option maxHeartbeats 1000000 in
theorem rfits_any (v u : Value) (P : List (Option (List (Option Gb.Tst)))) (l : List ByteArray) (w : World) (hm : Pms w v P) (hf : FewP P) (hl : P.length ≤ 4194304) (hn : Tx w u l) (hx : Txt l) (hll : l.length ≤ 4194304) :
    Calls Tryd.prog 26 #[v, u] w fun e w' => e = .returned (.bool (Gb.fits P (dl l))) ∧ Below w.heap.size w w' := by
  obtain ⟨W2, hW2⟩ : ∃ W2, W2 = (w.alloc (.cells #[v] 22)).alloc (.cells #[u] 30) := ⟨_, rfl⟩
  have HB2 : Hid (Below w.heap.size w W2) := by rw [hW2]; exact ((Below.refl _ w).alloc (Nat.le_refl _) _).alloc (by simp) _
  have hcell2 : W2.cell? ⟨w.heap.size, 0, none⟩ = some v := by rw [hW2]; simp
  have hcell5 : W2.cell? ⟨w.heap.size + 1, 0, none⟩ = some u := by rw [hW2]; simp
  obtain ⟨b2, hb2⟩ : ∃ b2, b2 = w.heap.size := ⟨_, rfl⟩
  rw [← hb2] at hcell2 hcell5
  have hmW : Pms W2 v P := hm.below HB2.out
  have hnW : Tx W2 u l := hn.below HB2.out
  have hF1 : Fn1 W2 (.func (.func 48) #[] #[Pt b2]) P.length (Gb.anyOf P) := ⟨_, _, rfl, fun _ _ => by kernel_rfl, fun W hW i hi => by
    refine (ff1_any b2 i v P W ((Below.cell hW (p := ⟨b2, 0, none⟩) (World.block_lt_of_cell? W2 _ hcell2)).trans hcell2) (hmW.below hW) hi).mono ?_
    rintro e w' ⟨rfl, rfl⟩
    exact ⟨rfl, Below.refl _ _⟩⟩
  have hF2 : Fn2 W2 (.func (.func 49) #[] #[Pt b2, Pt (b2 + 1)]) P.length l.length (Gb.anyOf P) (Gb.oneOf fitB P l) := ⟨_, _, rfl, fun _ _ => by kernel_rfl, fun W hW i k hi hk ha => by
    have hmi : P[i]? = some P[i] := List.getElem?_eq_getElem hi
    have hgd : P.getD i none = P[i] := by rw [List.getD_eq_getElem?_getD, hmi]; rfl
    cases hxx : P[i] with
    | none => rw [Gb.anyOf, hgd, hxx] at ha; cases ha
    | some m =>
      have hck : l[k]? = some l[k] := List.getElem?_eq_getElem hk
      have ho : Gb.oneOf fitB P l i k = fitB m l[k] := by rw [Gb.oneOf, hgd, hxx, hck]
      obtain ⟨z1, cs, z2⟩ := hx l[k] (List.getElem_mem hk)
      rw [ho]
      exact ff2_any b2 (b2 + 1) i k v u P l m l[k] cs W ((Below.cell hW (p := ⟨b2, 0, none⟩) (World.block_lt_of_cell? W2 _ hcell2)).trans hcell2) (hmW.below hW) hi (by rw [hmi, hxx]) (hf m (by rw [← hxx]; exact List.getElem_mem hi)).1 ((Below.cell hW (p := ⟨b2 + 1, 0, none⟩) (World.block_lt_of_cell? W2 _ hcell5)).trans hcell5) (hnW.below hW) hck z1 z2⟩
  have ht := table_any l.length P.length _ _ _ _ W2 hF1 hF2 hll hl
  rw [Gb.tab_of, fits_dl] at ht
  generalize Gb.fits P (dl l) = ANS at *
  obtain ⟨a, c, rfl⟩ := hm.slice
  obtain ⟨al, cl, rfl⟩ := hn.slice
  clear hF1 hF2 hmW hnW hm hn hx hf
  generalize P.length = M at *
  generalize l.length = L at *
  unfold Pt at ht
  go_enter Tryd.func26, Tryd.ntmps26
  go_upto_region 1 with fail
  rw [← hW2, ← hb2]
  clear hW2 hb2
  go_wp2_with fail
  refine ht.mono ?_
  rintro e w3 ⟨rfl, b3⟩
  have HB3 : Hid (Below w.heap.size w w3) := HB2.out.trans (b3.mono HB2.out.size)
  clear ht b3
  go_wp2_with fail
  go_ret
  exact ⟨rfl, HB3.out⟩
end Go.Proofs.YtfcnlfblfennaaaDoor

namespace Go.Proofs.YtfcnlfblfennaaaDoor
open Go.RowKit

set_option maxRecDepth 10000 in
set_option maxHeartbeats 1000000 in
theorem rmatch_any (p q : ByteArray) (w : World) (hq : q.size ≤ 4194304) :
    Calls Tryd.prog 11 #[.string p, .string q] w fun e w' => e = .returned (.tuple #[.bool (Gb.mtch p.data.toList q.data.toList).1, .int .i64 (Gb.mtch p.data.toList q.data.toList).2]) ∧ Below w.heap.size w w' := by
  have hp := rpattern_any p w
  unfold PrOut at hp
  have HM : Hid (Gb.mtch p.data.toList q.data.toList = if (Gb.pat p.data.toList).2 ≠ 0 then (false, (Gb.pat p.data.toList).2) else if (Nn.split q.data.toList).2 ≠ 0 then (false, (Nn.split q.data.toList).2) else (Gb.fits (Gb.pat p.data.toList).1 (Nn.split q.data.toList).1, 0)) := rfl
  generalize Gb.mtch p.data.toList q.data.toList = A at *
  generalize (Gb.pat p.data.toList).2 = E at *
  generalize (Gb.pat p.data.toList).1 = P at *
  go_enter Tryd.func11, Tryd.ntmps11
  go_wp2_with fail
  refine hp.mono ?_
  rintro e w1 ⟨v, rfl, hPt, b1, hF, hL⟩
  have HB1 : Hid (Below w.heap.size w w1) := b1
  have HP : Hid (Pms w1 v P ∧ FewP P ∧ P.length ≤ 4194304) := ⟨hPt, hF, hL⟩
  clear b1 hp hPt hF hL
  by_cases hE : E = 0
  · subst hE
    have hs := rsplit_any q w1 hq
    have HM2 : Hid (A = if (Nn.split q.data.toList).2 ≠ 0 then (false, (Nn.split q.data.toList).2) else (Gb.fits P (Nn.split q.data.toList).1, 0)) := by
      have := HM.out
      rwa [if_neg (by simp)] at this
    clear HM
    go_wp2_with fail
    refine hs.mono ?_
    rintro e w2 ⟨v2, l, rfl, hd, hx, hcp, b2⟩
    have HB2 : Hid (Below w.heap.size w w2) := HB1.out.trans (b2.mono HB1.out.size)
    by_cases hF : (Nn.split q.data.toList).2 = 0
    · have hsp : Nn.split q.data.toList = (dl l, 0) := Prod.ext hd.symm hF
      have he := (Nn.join_ok (Nn.split_join hsp)).1
      have hl8 := Nn.errs_len he
      rw [dl_length] at hl8
      have ht := rfits_any v v2 P l w2 (HP.out.1.below b2) HP.out.2.1 HP.out.2.2 hx (txt_of he) (by omega)
      have HA : Hid (A = (Gb.fits P (dl l), 0)) := by
        have := HM2.out
        rwa [hsp, if_neg (by simp)] at this
      generalize Gb.fits P (dl l) = ANS at *
      rw [hsp]
      obtain ⟨a2, c2, rfl⟩ := hx.slice
      obtain ⟨a1, c1, rfl⟩ := HP.out.1.slice
      generalize l.length = n2 at *
      generalize P.length = n1 at *
      clear hs hd hx hcp b2 hF hsp he HM2 HP
      go_wp2_with fail
      refine ht.mono ?_
      rintro e w3 ⟨rfl, b3⟩
      have HB3 : Hid (Below w.heap.size w w3) := HB2.out.trans (b3.mono HB2.out.size)
      clear ht b3
      go_wp2_with fail
      go_ret2
      exact ⟨by rw [HA.out]; rfl, HB3.out⟩
    · have HA : Hid (A = (false, (Nn.split q.data.toList).2)) := by
        have := HM2.out
        rwa [if_pos hF] at this
      generalize (Nn.split q.data.toList).2 = F at *
      have hqn : (F != 0) = true := by rw [bne_iff_ne]; exact hF
      clear hs hd hx hcp b2 hF HM2 HP
      go_wp2_with fail
      go_ret2
      exact ⟨by rw [HA.out]; rfl, HB2.out⟩
  · have hqn : (E != 0) = true := by rw [bne_iff_ne]; exact hE
    have HA : Hid (A = (false, E)) := by
      have := HM.out
      rwa [if_pos hE] at this
    clear HM HP hE
    go_wp2_with fail
    go_ret2
    exact ⟨by rw [HA.out]; rfl, HB1.out⟩
end Go.Proofs.YtfcnlfblfennaaaDoor
