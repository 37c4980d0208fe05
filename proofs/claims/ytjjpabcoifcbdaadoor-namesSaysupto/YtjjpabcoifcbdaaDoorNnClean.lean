/-
  P38: what strings.Cut at a slash and Clean of package names answer.
-/
import Derived.Test.YtjjpabcoifcbdaaDoorNnJoin
import Derived.Test.YtjjpabcoifcbdaaDoorNnCutM
import Derived.Test.YtjjpabcoifcbdaaDoorShelfIx
import Derived.Deep.LoopGhost
import Derived.Deep.RegionWith
namespace Go.Proofs.YtjjpabcoifcbdaaDoor
open Go.RowKit
set_option maxRecDepth 4000

/-- a text, what stands ahead of its first slash, what stands behind, and whether there is one -/
def CutR (s t r : ByteArray) (m : Bool) : Prop :=
  (m = true ∧ Nn.cut s.data.toList = t.data.toList :: Nn.cut r.data.toList ∧ t.size + r.size + 1 = s.size) ∨ (m = false ∧ Nn.cut s.data.toList = [t.data.toList] ∧ t.size = s.size)
def CutOut (s : ByteArray) (w : World) (e : Ending) (w' : World) : Prop := ∃ t r m, e = .returned (.tuple #[.string t, .string r, .bool m]) ∧ CutR s t r m ∧ Below w.heap.size w w'

set_option maxHeartbeats 1000000 in
theorem cutL_any (s : ByteArray) (w : World) (hs : s.size ≤ 140737488351232) :
    Calls Tryd.prog 40 #[.string s, .string ⟨#[47]⟩] w (CutOut s w) := by
  have hI := Tryd.stringslite_Index_one s 47 w
  rcases Nn.ix_cases 47 s.data.toList with ⟨hix, _⟩ | ⟨i, hix, hroom, _⟩
  · have HR : Hid (CutR s s ⟨#[]⟩ false) := .inr ⟨rfl, Nn.cut_none hix, rfl⟩
    rw [hix] at hI
    clear hix
    go_enter Tryd.func40, Tryd.ntmps40
    go_wp2_with fail
    refine hI.mono ?_
    rintro e u ⟨rfl, hu⟩
    obtain rfl := hu.symm
    go_wp2_with fail
    go_ret3
    exact ⟨s, ⟨#[]⟩, false, rfl, HR.out, Below.refl _ _⟩
  · rw [← Lib.size_eq] at hroom
    have HR : Hid (CutR s (s.extract 0 i) (s.extract (i + 1) s.size) true) := .inl ⟨rfl, by rw [Nn.cut_at hix, Lib.extract_from_zero, Nn.ext_drop], by rw [ByteArray.size_extract, ByteArray.size_extract]; omega⟩
    have c2 : (↑i : Int) ≤ ↑s.size := by omega
    have c4 : (↑i + 1 : Int) ≤ ↑s.size := by omega
    have c3 : (0 : Int) ≤ ↑i + 1 := by omega
    have c5 : (0 : Int) ≤ (i : Int) := by omega
    rw [hix] at hI
    clear hix
    go_enter Tryd.func40, Tryd.ntmps40
    go_wp2_with fail
    refine hI.mono ?_
    rintro e u ⟨rfl, hu⟩
    obtain rfl := hu.symm
    go_wp2_with fail
    go_region
    go_wp2_with fail
    go_ret3
    refine ⟨_, _, _, rfl, HR.out, ?_⟩
    first | exact Below.refl _ _ | exact (Below.refl _ _).drew

theorem cutS_any (s : ByteArray) (w : World) (hs : s.size ≤ 140737488351232) :
    Calls Tryd.prog 27 #[.string s, .string ⟨#[47]⟩] w (CutOut s w) := by
  have h := cutL_any s w hs
  go_enter Tryd.func27, Tryd.ntmps27
  go_wp2_with fail
  refine h.mono ?_
  rintro e u ⟨t, r, m, rfl, hr, hb⟩
  have HR : Hid (CutR s t r m) := hr
  have HB : Hid (Below w.heap.size w u) := hb
  clear hr hb h
  go_wp2_with fail
  go_ret3
  exact ⟨t, r, m, rfl, HR.out, HB.out⟩

/-- a row without its last text -/
theorem own_last {base : Nat} {w : World} {g n cap : Nat} {l : List ByteArray} (h : w.ownsRow base 9 1 (.slice (some ⟨g, 0, none⟩) n cap) n (l.map Tv)) (hn : 1 ≤ n) :
    w.ownsRow base 9 1 (.slice (some ⟨g, 0, none⟩) (n - 1) cap) (n - 1) (l.dropLast.map Tv) := by
  have hl : l.length = n := by have := h.1; simpa using this
  rcases h.2 with ⟨hv, _⟩ | ⟨g', cap', cur, hv, hb, hg, hle, hm, hs, htk⟩
  · cases hv
  · cases hv
    refine ⟨by simp; omega, .inr ⟨g, cap, cur, rfl, hb, hg, by omega, hm, hs, ?_⟩⟩
    rw [List.map_dropLast, ← htk, List.dropLast_eq_take, List.take_take, List.length_take]
    congr 1
    have : cur.toList.length = cap * 1 := by simpa using hs
    omega
/-- one text more behind a row of one's own -/
theorem own_push {base : Nat} {w wr w1 : World} {v v1 : Value} {l : List ByteArray} {t : ByteArray} {o : Obj} (hown : wr.ownsRow base 9 1 v l.length (l.map Tv))
    (hown1 : w1.ownsRow base 9 1 v1 (l.length + 1) (l.map Tv ++ [.string t])) (hg : (wr.alloc o).grownBy w1 v.ownBlock) (hbel : Below base w wr) (hbase : base ≤ w.heap.size) :
    w1.ownsRow base 9 1 v1 (l ++ [t]).length ((l ++ [t]).map Tv) ∧ Below base w w1 := by
  refine ⟨by simpa [Tv] using hown1, ?_⟩
  have hs := hbel.size
  refine (hbel.alloc (by omega) o).grown hg (by simp; omega) ?_
  intro k hk
  exact (hown.lt k hk).1
theorem info_tx : (Tryd.prog.info? 9).map (fun i => (i.zero, i.size, i.bytes)) = some (some (.string ⟨#[]⟩), 1, 16) := by kernel_rfl
theorem info_of {P : Program} {e : TypeId} {z : Option Value} {s b : Nat} (h : (P.info? e).map (fun i => (i.zero, i.size, i.bytes)) = some (z, s, b)) : ∃ i, P.info? e = some i ∧ i.zero = z ∧ i.size = s ∧ i.bytes = b := by
  cases hi : P.info? e with
  | none => rw [hi] at h; cases h
  | some i =>
    rw [hi] at h
    simp only [Option.map_some, Option.some.injEq, Prod.mk.injEq] at h
    exact ⟨i, rfl, h.1, h.2.1, h.2.2⟩
/-- how Clean ends -/
def Nn.clEnd : Option (List Nn.Name) → List UInt8 × Int
  | none => ([], 8)
  | some l => Nn.join l
/-- what Clean answers -/
def ClOut (p : List UInt8) (w : World) (e : Ending) (w' : World) : Prop :=
  e = .returned (.tuple #[St (Nn.clean p).1, .int .i64 (Nn.clean p).2]) ∧ Below w.heap.size w w'
theorem Nn.stk_skip {st : List Nn.Name} {s : Nn.Name} {r : List Nn.Name} (h : s = [] ∨ s = [46]) : Nn.stk st (s :: r) = Nn.stk st r := by
  rw [Nn.stk, if_neg (by rcases h with rfl | rfl <;> simp), if_pos h]
theorem Nn.stk_up {st : List Nn.Name} {r : List Nn.Name} : Nn.stk st ([46, 46] :: r) = if st = [] then none else Nn.stk st.dropLast r := by
  rw [Nn.stk, if_pos rfl]
theorem Nn.stk_keep {st : List Nn.Name} {s : Nn.Name} {r : List Nn.Name} (h0 : s ≠ []) (h1 : s ≠ [46]) (h2 : s ≠ [46, 46]) : Nn.stk st (s :: r) = Nn.stk (st ++ [s]) r := by
  rw [Nn.stk, if_neg h2, if_neg (by simp only [not_or]; exact ⟨h0, h1⟩)]
/-- one part of the text, and what is left -/
theorem CutR.next {s t r : ByteArray} {m : Bool} {st : List Nn.Name} {Z : Option (List Nn.Name)} (h : CutR s t r m) (hz : Nn.stk st (Nn.cut s.data.toList) = Z) : Nn.stk st (t.data.toList :: (if m then Nn.cut r.data.toList else [])) = Z := by
  rcases h with ⟨rfl, h, _⟩ | ⟨rfl, h, _⟩
  · rw [h] at hz; exact hz
  · rw [h] at hz; exact hz
theorem CutR.less {s t r : ByteArray} {m : Bool} (h : CutR s t r m) : (if m then r.size + 1 else 0) < s.size + 1 ∧ t.size + (if m then r.size else 0) ≤ s.size := by
  rcases h with ⟨rfl, _, h⟩ | ⟨rfl, _, h⟩
  · simp only [if_true]; omega
  · simp only [Bool.false_eq_true, if_false]; omega
/-- how far Clean is: what is kept, what is left, whether there is more -/
structure ClS (Z : Option (List Nn.Name)) (n : Nat) (K : List ByteArray) (left : ByteArray) (m : Bool) : Prop where
  stk : Nn.stk (dl K) (if m then Nn.cut left.data.toList else []) = Z
  few : ∀ s ∈ K, s.size ≤ n
  len : K.length + (if m then left.size else 0) ≤ n
  small : (if m then left.size else 0) ≤ n
theorem dl_app (l : List ByteArray) (t : ByteArray) : dl (l ++ [t]) = dl l ++ [t.data.toList] := by simp [dl]
theorem dl_drop (l : List ByteArray) : dl l.dropLast = (dl l).dropLast := by simp [dl, List.map_dropLast]

set_option maxHeartbeats 2000000 in
theorem cleanG_any (p : ByteArray) (w : World) (hp : p.size ≤ 4194304) (hT : Tabs w) :
    Calls Tryd.prog 11 #[.string p] w (ClOut p.data.toList w) := by
  obtain ⟨i0, hi, hz0, hz1, hz2⟩ := info_of info_tx
  have HT : Hid (Tabs w) := hT
  obtain ⟨Z, hZ⟩ : ∃ Z, Nn.stk [] (Nn.cut p.data.toList) = Z := ⟨_, rfl⟩
  have HC : Hid (Nn.clean p.data.toList = Nn.clEnd Z) := by
    show _ = _
    rw [← hZ]
    rfl
  have HS : Hid (ClS Z p.size [] p true) := ⟨hZ, fun s hs => (List.not_mem_nil hs).elim, by simp, by simp⟩
  clear hZ hT
  go_enter Tryd.func11, Tryd.ntmps11
  go_wp2_with fail
  go_loopg [4, 5, 6] (p.size + 1) (fun g v lf mr wr => ∃ (K : List ByteArray) (left : ByteArray) (m : Bool), lf = .string left ∧ mr = .bool m ∧ g = (if m then left.size + 1 else 0) ∧ Hid (ClS Z p.size K left m) ∧ Hid (wr.ownsRow w.heap.size 9 1 v K.length (K.map Tv)) ∧ Hid (Below w.heap.size w wr))
  case atStart => exact ⟨[], p, true, rfl, rfl, rfl, HS, World.ownsRow_nil _ _ _ _, Below.refl _ _⟩
  case round =>
    clear HS
    obtain ⟨K, left, m, rfl, rfl, rfl, HS, HO, HB⟩ := hrel
    cases m
    · have hlen := HS.out.len
      simp only [Bool.false_eq_true, if_false] at hlen
      have HZ : Hid (Z = some (dl K)) := by
        have := HS.out.stk
        simp only [Bool.false_eq_true, if_false, Nn.stk] at this
        exact this.symm
      have hj := joinG_any _ K wr (Tx.of_own HO.out) (Cp.of_own HO.out) (by omega) (fun s hs => by have := HS.out.few s hs; omega) (HT.out.below HB.out)
      obtain ⟨a1, c1, rfl⟩ := own_len HO.out
      clear HO
      go_wp2_with fail
      refine hj.mono ?_
      rintro e w2 ⟨rfl, b2⟩
      have HB2 : Hid (Below w.heap.size w w2) := HB.out.trans (b2.mono HB.out.size)
      clear b2 hj
      go_wp2_with fail
      go_ret2
      refine ⟨?_, HB2.out⟩
      rw [HC.out, HZ.out]
      rfl
    · have hsm := HS.out.small
      simp only [if_true] at hsm
      have hq := cutS_any left wr (by omega)
      obtain ⟨a1, c1, rfl⟩ := own_len HO.out
      go_wp2_with fail
      refine hq.mono ?_
      rintro e w2 ⟨t, r, m, rfl, hr, b2⟩
      have HO2 : Hid (w2.ownsRow w.heap.size 9 1 (.slice a1 K.length c1) K.length (K.map Tv)) := own_below HO.out b2
      have HB2 : Hid (Below w.heap.size w w2) := HB.out.trans (b2.mono HB.out.size)
      have hless := hr.less
      have HN : Hid (Nn.stk (dl K) (t.data.toList :: (if m then Nn.cut r.data.toList else [])) = Z) := hr.next (by have := HS.out.stk; simpa using this)
      have hl1 := HS.out.len
      simp only [if_true] at hl1 ⊢
      have HF : Hid (∀ s ∈ K, s.size ≤ p.size) := HS.out.few
      clear hr b2 hq HO HB HS
      by_cases h0 : t.data.toList = [] ∨ t.data.toList = [46]
      · have HS2 : Hid (ClS Z p.size K r m) := by
          refine ⟨?_, HF.out, by omega, by omega⟩
          have := HN.out
          rwa [Nn.stk_skip h0] at this
        rcases h0 with h0 | h0
        all_goals
          obtain rfl := of_data h0
          clear HN h0
          go_wp2_with fail
          go_roundg (if m then r.size + 1 else 0)
          case measure => omega
          case rel => exact ⟨K, r, m, rfl, rfl, rfl, HS2, HO2, HB2⟩
      simp only [not_or] at h0
      have e0 : (t.toList == []) = false := data_ne h0.1
      have e0' : t.toList.isEmpty = false := by
        rw [Lib.toList_data]
        cases hx : t.data.toList with
        | nil => exact absurd hx h0.1
        | cons a b => rfl
      have e1 : (t.toList == [46]) = false := data_ne h0.2
      by_cases h2 : t.data.toList = [46, 46]
      · have HN2 : Hid ((if dl K = [] then none else Nn.stk (dl K).dropLast (if m then Nn.cut r.data.toList else [])) = Z) := by
          have := HN.out
          rwa [h2, Nn.stk_up] at this
        obtain rfl := of_data h2
        clear HN h0 h2 e0 e0' e1
        by_cases hk : K = []
        · subst hk
          have HZ : Hid (Z = none) := by
            have := HN2.out
            rw [if_pos (by rfl)] at this
            exact this.symm
          go_wp2_with fail
          go_ret2
          refine ⟨?_, HB2.out⟩
          rw [HC.out, HZ.out]
          rfl
        · have hkl : 1 ≤ K.length := List.length_pos_iff.2 hk
          have HZ : Hid (Nn.stk (dl K.dropLast) (if m then Nn.cut r.data.toList else []) = Z) := by
            have := HN2.out
            rwa [if_neg (fun h => hk (by simpa [dl] using h)), ← dl_drop] at this
          obtain ⟨g, c, hv2, _⟩ := own_some HO2.out (by omega)
          simp only [Value.slice.injEq, true_and] at hv2
          obtain ⟨rfl, rfl⟩ := hv2
          have HO3 := HO2.out
          have HO4 : Hid (w2.ownsRow w.heap.size 9 1 (.slice (some ⟨g, 0, none⟩) (K.length - 1) c1) (K.length - 1) (K.dropLast.map Tv)) := own_last HO3 hkl
          have hcap : K.length ≤ c1 := Cp.of_own HO3 _ _ _ rfl
          have HS2 : Hid (ClS Z p.size K.dropLast r m) := ⟨HZ.out, fun s hs => HF.out s (List.dropLast_subset K hs), by rw [List.length_dropLast]; omega, by omega⟩
          have HKL : Hid (K.dropLast.length = K.length - 1) := List.length_dropLast ..
          have hne : ((K.length : Int) == 0) = false := by rw [beq_eq_false_iff_ne]; omega
          obtain ⟨n, hn⟩ : ∃ n, K.length = n + 1 := ⟨K.length - 1, by omega⟩
          have hnb : n ≤ 4194304 := by omega
          rw [hn] at HO4 HKL hne hcap ⊢
          rw [Nat.add_sub_cancel] at HO4 HKL
          clear HO2 HO3 HN2 HZ hk hkl hn
          go_wp2_with fail
          go_roundg (if m then r.size + 1 else 0)
          case measure => omega
          case rel => exact ⟨K.dropLast, r, m, rfl, rfl, rfl, HS2, by rw [HKL.out]; exact HO4, HB2⟩
      · have e2 : (t.toList == [46, 46]) = false := data_ne h2
        have HS2 : Hid (ClS Z p.size (K ++ [t]) r m) := by
          refine ⟨?_, fun s hs => ?_, ?_, by omega⟩
          · have := HN.out
            rw [Nn.stk_keep h0.1 h0.2 h2, ← dl_app] at this
            exact this
          · rcases List.mem_append.1 hs with hs | hs
            · exact HF.out s hs
            · rw [List.mem_singleton.1 hs]; omega
          · have : 1 ≤ t.size := by
              rw [Lib.size_eq]
              exact List.length_pos_iff.2 h0.1
            rw [List.length_append]
            simp only [List.length_cons, List.length_nil]
            omega
        have hown := HO2.out
        have hbel := HB2.out
        have hbs := hbel.size
        clear HN h0 h2 HB2 HO2
        go_wp2_with (at_builtin; refine wpList_append_own _ rfl _ _ 22 rfl w.heap.size 9 i0 (.string ⟨#[]⟩) 1 16 Tryd.underlying22 hi hz0 hz1 hz2 rfl (by decide) _ _ _ rfl (hown.alloc _) ⟨w2.heap.size, 0, none⟩ 1 1 [.string t] rfl rfl ?c1 ?c2 ?c3 ?c4 ?c5 ?_)
        case c1 =>
          intro j u hj
          match j, hj with
          | 0, hj => simp at hj; subst hj; simp [Addr.add]
        case c2 => intro u hu; simp at hu; subst hu; rfl
        case c3 => unfold maxLen; omega
        case c4 => omega
        case c5 => simp; omega
        intro v' w3 hown1 hgrow _
        have R := own_push hown hown1 hgrow hbel (Nat.le_refl _)
        have HR1 : Hid (w3.ownsRow w.heap.size 9 1 v' (K ++ [t]).length ((K ++ [t]).map Tv)) := R.1
        have HR2 : Hid (Below w.heap.size w w3) := R.2
        clear R hown1 hgrow hown hbel
        go_wp2_with fail
        go_roundg (if m then r.size + 1 else 0)
        case measure => omega
        case rel => exact ⟨K ++ [t], r, m, rfl, rfl, rfl, HS2, HR1, HR2⟩
end Go.Proofs.YtjjpabcoifcbdaaDoor
