/-
  lumref: what Chars and Name answer.
-/
import Derived.Test.YtcgecafajgoeeaaDoorRnChar
import Derived.Test.YtcgecafajgoeeaaDoorNnCheck
import Derived.Test.YtcgecafajgoeeaaDoorTxMem
import Derived.Deep.LoopGhost
namespace Go.Proofs.YtcgecafajgoeeaaDoor
open Go.RowKit
set_option maxRecDepth 4000

/-- a number as a cell -/
def Nv (n : Nat) : Value := .int .i64 n
theorem info_int : (Tryd.prog.info? 3).map (fun i => (i.zero, i.size, i.bytes)) = some (some (.int .i64 0), 1, 8) := by kernel_rfl
theorem info_of' {P : Program} {e : TypeId} {z : Option Value} {s b : Nat} (h : (P.info? e).map (fun i => (i.zero, i.size, i.bytes)) = some (z, s, b)) : ∃ i, P.info? e = some i ∧ i.zero = z ∧ i.size = s ∧ i.bytes = b := by
  cases hi : P.info? e with
  | none => rw [hi] at h; cases h
  | some i =>
    rw [hi] at h
    simp only [Option.map_some, Option.some.injEq, Prod.mk.injEq] at h
    exact ⟨i, rfl, h.1, h.2.1, h.2.2⟩
theorem own_num {base : Nat} {w wr w1 : World} {v v1 : Value} {l : List Nat} {t : Nat} {o : Obj} (hown : wr.ownsRow base 3 1 v l.length (l.map Nv))
    (hown1 : w1.ownsRow base 3 1 v1 (l.length + 1) (l.map Nv ++ [.int .i64 t])) (hg : (wr.alloc o).grownBy w1 v.ownBlock) (hbel : Below base w wr) (hbase : base ≤ w.heap.size) :
    w1.ownsRow base 3 1 v1 (l ++ [t]).length ((l ++ [t]).map Nv) ∧ Below base w w1 := by
  refine ⟨by simpa [Nv] using hown1, ?_⟩
  have hs := hbel.size
  refine (hbel.alloc (by omega) o).grown hg (by simp; omega) ?_
  intro k hk
  exact (hown.lt k hk).1
/-- what Chars answers -/
def CharsOut (s : ByteArray) (w : World) (e : Ending) (w' : World) : Prop :=
  Below w.heap.size w w' ∧ ((Nn.chars s.data.toList = none ∧ e = .returned (.tuple #[.slice none 0 0, .bool false])) ∨
    ∃ l v, Nn.chars s.data.toList = some l ∧ e = .returned (.tuple #[v, .bool true]) ∧ w'.ownsRow w.heap.size 3 1 v l.length (l.map Nv))
theorem Nn.chars_count : ∀ (l : List UInt8) (cs : List Nat), Nn.chars l = some cs → cs.length ≤ l.length := by
  intro l
  induction l using Nn.chars_ind with
  | h0 => intro cs h; rw [Nn.chars_nil] at h; cases h; simp
  | hs l hne ih =>
    intro cs h
    obtain ⟨_, h1, r, rfl, h2⟩ := Nn.chars_head h hne
    have := ih (by omega) r h2
    have hl := List.length_pos_iff.2 hne
    rw [List.length_drop] at this
    simp only [List.length_cons]
    omega
theorem Nn.ext_drop' (s : ByteArray) (i : Nat) : (s.extract i s.size).data.toList = s.data.toList.drop i := by
  rw [ByteArray.data_extract, Array.toList_extract, List.extract_eq_take_drop]
  exact List.take_of_length_le (by rw [List.length_drop, ← Lib.size_eq]; omega)
/-- how far Chars is -/
structure ChS (Z : Option (List Nat)) (n : Nat) (ds : List Nat) (t : ByteArray) : Prop where
  val : (Nn.chars t.data.toList).map (ds ++ ·) = Z
  len : ds.length + t.size ≤ n

set_option maxHeartbeats 2000000 in
theorem rchars_any (s : ByteArray) (w : World) (hs : s.size ≤ 4194304) :
    Calls Tryd.prog 47 #[.string s] w (CharsOut s w) := by
  obtain ⟨i0, hi, hz0, hz1, hz2⟩ := info_of' info_int
  obtain ⟨Z, hZ⟩ : ∃ Z, Nn.chars s.data.toList = Z := ⟨_, rfl⟩
  have HZ : Hid (Nn.chars s.data.toList = Z) := hZ
  have HS : Hid (ChS Z s.size [] s) := ⟨by rw [hZ]; cases Z <;> rfl, by simp⟩
  clear hZ
  go_enter Tryd.func47, Tryd.ntmps47
  go_wp2_with fail
  go_loopg [0, 4] (s.size + 1) (fun g s0 v wr => ∃ (t : ByteArray) (ds : List Nat), s0 = .string t ∧ g = t.size + 1 ∧ Hid (ChS Z s.size ds t) ∧ Hid (wr.ownsRow w.heap.size 3 1 v ds.length (ds.map Nv)) ∧ Hid (Below w.heap.size w wr))
  case atStart => exact ⟨s, [], rfl, rfl, HS, World.ownsRow_nil _ _ _ _, Below.refl _ _⟩
  case round =>
    clear HS
    obtain ⟨t, ds, rfl, rfl, HS, HO, HB⟩ := hrel
    have hlen := HS.out.len
    obtain ⟨a1, c1, rfl⟩ := own_len HO.out
    by_cases h0 : t.data.toList = []
    · have HE : Hid (Z = some ds) := by
        have := HS.out.val
        rw [h0, Nn.chars_nil] at this
        show _ = _
        simpa using this.symm
      obtain rfl := of_data h0
      clear h0
      go_wp2_with fail
      go_ret2
      exact ⟨HB.out, .inr ⟨ds, _, by rw [HZ.out, HE.out], rfl, HO.out⟩⟩
    · have e0 : (t.toList == []) = false := data_ne h0
      have e0' : t.toList.isEmpty = false := by
        rw [Lib.toList_data]
        cases hx : t.data.toList with
        | nil => exact absurd hx h0
        | cons a b => rfl
      have hq := rchar_any t wr (by omega)
      unfold ChOut at hq
      have hv := HS.out.val
      rw [Nn.chars_step _ h0] at hv
      have hle := Nn.chr_le t.data.toList
      rw [← Lib.size_eq] at hle
      have hbs := HB.out.size
      by_cases hn : (Nn.chr t.data.toList).2 = 0
      · have HE : Hid (Z = none) := by
          rw [if_pos hn] at hv
          exact hv.symm
        rw [hn] at hq
        clear hv hle hn
        generalize (Nn.chr t.data.toList).1 = c at *
        go_wp2_with fail
        refine hq.mono ?_
        rintro e w2 ⟨rfl, b2⟩
        have HB2 : Hid (Below w.heap.size w w2) := HB.out.trans (b2.mono HB.out.size)
        clear b2 hq
        go_wp2_with fail
        go_ret2
        exact ⟨HB2.out, .inl ⟨by rw [HZ.out, HE.out], rfl⟩⟩
      · obtain ⟨r, hr⟩ : ∃ r, t.extract (Nn.chr t.data.toList).2 t.size = r := ⟨_, rfl⟩
        have hrz : r.size + (Nn.chr t.data.toList).2 = t.size := by rw [← hr, ByteArray.size_extract]; omega
        have HS2 : Hid (ChS Z s.size (ds ++ [(Nn.chr t.data.toList).1]) r) := by
          refine ⟨?_, by simp; omega⟩
          rw [if_neg hn] at hv
          rw [← hv, ← hr, Nn.ext_drop', Option.map_map]
          congr 1
          funext x
          simp
        generalize (Nn.chr t.data.toList).1 = c at *
        generalize (Nn.chr t.data.toList).2 = n at *
        have hnz : ((n : Int) == 0) = false := by rw [beq_eq_false_iff_ne]; omega
        have hn0 : (0 : Int) ≤ (n : Int) := by omega
        have hnl : (n : Int) ≤ (t.size : Int) := by omega
        have hdl : ds.length ≤ 4194304 := by omega
        clear hv
        go_wp2_with fail
        refine hq.mono ?_
        rintro e w2 ⟨rfl, b2⟩
        have hown := own_below HO.out b2
        have hbel := HB.out.trans (b2.mono HB.out.size)
        have hb2 := hbel.size
        clear b2 hq HO HB
        go_wp2_with (at_builtin; refine wpList_append_own _ rfl _ _ 75 rfl w.heap.size 3 i0 (.int .i64 0) 1 8 Tryd.underlying75 hi hz0 hz1 hz2 rfl (by decide) _ _ _ rfl (hown.alloc _) ⟨w2.heap.size, 0, none⟩ 1 1 [.int .i64 c] rfl rfl ?c1 ?c2 ?c3 ?c4 ?c5 ?_)
        case c1 =>
          intro j u hj
          match j, hj with
          | 0, hj => simp at hj; subst hj; simp [Addr.add]
        case c2 => intro u hu; simp at hu; subst hu; rfl
        case c3 => unfold maxLen; omega
        case c4 => omega
        case c5 => simp; omega
        intro v' w3 hown1 hgrow _
        have R := own_num hown hown1 hgrow hbel (Nat.le_refl _)
        have HR1 : Hid (w3.ownsRow w.heap.size 3 1 v' (ds ++ [c]).length ((ds ++ [c]).map Nv)) := R.1
        have HR2 : Hid (Below w.heap.size w w3) := R.2
        clear R hown1 hgrow hown hbel
        go_wp2_with fail
        go_roundg (r.size + 1)
        case measure => omega
        case rel => exact ⟨r, ds ++ [c], rfl, rfl, HS2, HR1, HR2⟩

theorem num_cell {base : Nat} {w : World} {g n cap : Nat} {l : List Nat} (h : w.ownsRow base 3 1 (.slice (some ⟨g, 0, none⟩) n cap) n (l.map Nv)) (k : Nat) (hk : k < n) :
    w.cell? ⟨g, k, none⟩ = some (.int .i64 (l.getD k 0 : Nat)) := by
  have hn : l.length = n := by have := h.1; simpa using this
  rw [h.cellAt k (by omega), List.getElem?_map, List.getD_eq_getElem?_getD, List.getElem?_eq_getElem (by omega)]
  rfl
theorem Nn.all_drop (l : List Nat) (k : Nat) (hk : k < l.length) : (l.drop k).all Nn.may = (Nn.may (l.getD k 0) && (l.drop (k + 1)).all Nn.may) := by
  rw [List.drop_eq_getElem_cons hk, List.all_cons, List.getD_eq_getElem?_getD, List.getElem?_eq_getElem hk]
  rfl

set_option maxHeartbeats 2000000 in
set_option maxRecDepth 8000 in
theorem rname_any (s : ByteArray) (w : World) (hs : s.size ≤ 4194304) :
    Calls Tryd.prog 30 #[.string s] w fun e w' => e = .returned (.int .i64 (Nn.nm s.data.toList)) ∧ Below w.heap.size w w' := by
  have hq := rchars_any s w hs
  go_enter Tryd.func30, Tryd.ntmps30
  go_wp2_with fail
  refine hq.mono ?_
  rintro e w1 ⟨hb, ⟨hc, rfl⟩ | ⟨l, v, hc, rfl, ho⟩⟩
  · have HE : Hid (Nn.nm s.data.toList = 8) := Nn.nm_none hc
    have HB : Hid (Below w.heap.size w w1) := hb
    clear hb hc hq
    go_wp2_with fail
    go_ret
    exact ⟨by rw [HE.out]; rfl, HB.out⟩
  · have HB : Hid (Below w.heap.size w w1) := hb
    by_cases hf : s.data.toList = [] ∨ s.data.toList = [46] ∨ s.data.toList = [46, 46]
    · have HE : Hid (Nn.nm s.data.toList = 8) := Nn.nm_few hf
      obtain ⟨a1, c1, rfl⟩ := own_len ho
      rcases hf with hf | hf | hf
      · have hl : l = [] := by rw [hf, Nn.chars_nil] at hc; exact (Option.some.inj hc).symm
        subst hl
        clear hb hc hq ho hf
        go_wp2_with fail
        go_ret
        exact ⟨by rw [HE.out]; rfl, HB.out⟩
      all_goals
        have hl : ((l.length : Int) == 0) = false := by
          rw [beq_eq_false_iff_ne]
          have : l ≠ [] := fun e => by
            rw [e] at hc
            have := (Nn.chars_empty _).1 hc
            rw [hf] at this
            cases this
          have := List.length_pos_iff.2 this
          omega
        obtain rfl := of_data hf
        clear hb hc hq ho hf
        go_wp2_with fail
        go_ret
        exact ⟨by rw [HE.out]; rfl, HB.out⟩
    simp only [not_or] at hf
    have HE : Hid (Nn.nm s.data.toList = if l.all Nn.may = false then 8 else if 24 < l.length then 2 else 0) := Nn.nm_some hc hf.1 hf.2.1 hf.2.2
    have hl0 : 1 ≤ l.length := by
      have : l ≠ [] := fun e => hf.1 ((Nn.chars_empty _).1 (by rw [hc, e]))
      exact List.length_pos_iff.2 this
    have hl1 : l.length ≤ 4194304 := by
      have := Nn.chars_count _ _ hc
      rw [← Lib.size_eq] at this
      omega
    have hl : ((l.length : Int) == 0) = false := by rw [beq_eq_false_iff_ne]; omega
    have e1 : (s.toList == [46]) = false := data_ne hf.2.1
    have e2 : (s.toList == [46, 46]) = false := data_ne hf.2.2
    obtain ⟨g, c, rfl, _⟩ := own_some ho (by omega)
    have HO : Hid (w1.ownsRow w.heap.size 3 1 (.slice (some ⟨g, 0, none⟩) l.length c) l.length (l.map Nv)) := ho
    have HS : Hid ((l.drop 0).all Nn.may = l.all Nn.may) := rfl
    obtain ⟨N, hN⟩ : ∃ N, N = l.length := ⟨_, rfl⟩
    have HN : Hid (N = l.length) := hN
    rw [← hN] at HO HE hl hl0 hl1 ⊢
    clear hb hc hq hf ho hN
    generalize l.all Nn.may = A at *
    go_wp2_with fail
    go_loop [29] (fun i => ∃ k : Nat, k ≤ N ∧ i = .int .i64 k ∧ Hid ((l.drop k).all Nn.may = A)) (fun i => N - (intOf i).toNat)
    case atStart => exact ⟨0, by omega, rfl, HS⟩
    case round =>
      clear HS
      obtain ⟨k, hk, rfl, HS⟩ := hrel
      by_cases hlt : k < N
      · have c0 := num_cell HO.out k hlt
        have HD : Hid (A = (Nn.may (l.getD k 0) && (l.drop (k + 1)).all Nn.may)) := by
          show _ = _
          rw [← Nn.all_drop _ _ (by rw [← HN.out]; exact hlt)]; exact HS.out.symm
        generalize l.getD k 0 = b at *
        clear HS
        by_cases h1 : b = 47
        · have HZ : Hid (A = false) := by
            show _ = _
            rw [HD.out, show Nn.may b = false from decide_eq_false (by omega)]; rfl
          subst h1
          clear HD
          go_wp2_with fail
          go_ret
          exact ⟨by rw [HE.out, HZ.out]; rfl, HB.out⟩
        have d1 : ((b : Int) == 47) = false := by rw [beq_eq_false_iff_ne]; omega
        by_cases h2 : b < 32
        · have HZ : Hid (A = false) := by
            show _ = _
            rw [HD.out, show Nn.may b = false from decide_eq_false (by omega)]; rfl
          clear HD h1
          go_wp2_with fail
          go_ret
          exact ⟨by rw [HE.out, HZ.out]; rfl, HB.out⟩
        by_cases h3 : b = 127
        · have HZ : Hid (A = false) := by
            show _ = _
            rw [HD.out, show Nn.may b = false from decide_eq_false (by omega)]; rfl
          subst h3
          clear HD h1 d1
          go_wp2_with fail
          go_ret
          exact ⟨by rw [HE.out, HZ.out]; rfl, HB.out⟩
        have d3 : ((b : Int) == 127) = false := by rw [beq_eq_false_iff_ne]; omega
        have HZ : Hid ((l.drop (k + 1)).all Nn.may = A) := by
          show _ = _
          rw [HD.out, show Nn.may b = true from decide_eq_true (by omega)]; rfl
        clear HD h1 h3
        go_wp2_with fail
        go_round
        case rel => exact ⟨k + 1, by omega, by go_num, HZ⟩
        case measure => simp only [intOf]; omega
      · obtain rfl : k = N := by omega
        have HZ : Hid (A = true) := by
          have := HS.out
          rw [List.drop_eq_nil_of_le (by rw [← HN.out]; omega)] at this
          exact this.symm
        clear HS
        by_cases h24 : 24 < k
        · go_wp2_with fail
          go_ret
          exact ⟨by rw [HE.out, HZ.out, if_neg (by simp), if_pos h24]; rfl, HB.out⟩
        · go_wp2_with fail
          go_ret
          exact ⟨by rw [HE.out, HZ.out, if_neg (by simp), if_neg h24]; rfl, HB.out⟩
end Go.Proofs.YtcgecafajgoeeaaDoor
