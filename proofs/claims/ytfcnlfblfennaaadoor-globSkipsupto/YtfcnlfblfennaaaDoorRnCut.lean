/-
  lumref: what cutAt answers: the parts of a text between its slashes, in a row of one's own.
-/
import Derived.Test.YtfcnlfblfennaaaDoorNnClean
import Derived.Test.YtfcnlfblfennaaaDoorRelReg
import Derived.Laws.AppendOwn
namespace Go.Proofs.YtfcnlfblfennaaaDoor
open Go.RowKit
set_option maxRecDepth 4000

/-- what cutAt answers -/
def RcOut (s : ByteArray) (w : World) (e : Ending) (w' : World) : Prop :=
  ∃ v l, e = .returned v ∧ dl l = Nn.cut s.data.toList ∧ (∀ t ∈ l, t.size ≤ s.size) ∧ w'.ownsRow w.heap.size 9 1 v l.length (l.map Tv) ∧ Below w.heap.size w w'
theorem own_one (W : World) (B : Nat) (hB : B ≤ W.heap.size) (x : ByteArray) :
    (W.alloc (.cells #[.string x] 9)).ownsRow B 9 1 (.slice (some ⟨W.heap.size, 0, none⟩) 1 1) 1 ([x].map Tv) :=
  ⟨rfl, .inr ⟨W.heap.size, 1, #[.string x], rfl, hB, heap_alloc_new W _, Nat.le_refl _, by unfold maxLen; omega, rfl, rfl⟩⟩
/-- the row of one text, made behind a world -/
def One (B : Nat) (x : ByteArray) (u : Value) (W : World) : Prop := ∃ g, u = .slice (some ⟨g, 0, none⟩) 1 1 ∧ W.ownsRow B 9 1 u 1 ([x].map Tv)
theorem One.past {B : Nat} {x : ByteArray} (u : Value) (W W' : World) (h : One B x u W) (hg : Gw W W') : One B x u W' := by
  obtain ⟨g, h1, h2⟩ := h
  exact ⟨g, h1, own_below h2 hg⟩
/-- the parts of what is left, as they lie in a world -/
def Cs (r : ByteArray) (n : Nat) (u : Value) (W : World) : Prop := ∃ l, dl l = Nn.cut r.data.toList ∧ (∀ t ∈ l, t.size ≤ n) ∧ Tx W u l
theorem Cs.past {r : ByteArray} {n : Nat} (u : Value) (W W' : World) (h : Cs r n u W) (hg : Gw W W') : Cs r n u W' := by
  obtain ⟨l, h1, h2, h3⟩ := h
  exact ⟨l, h1, h2, h3.below hg⟩
theorem Nn.cut_len : ∀ (l : List UInt8), (Nn.cut l).length ≤ l.length + 1
  | [] => by simp [Nn.cut]
  | b :: l => by
    have := Nn.cut_len l
    rw [Nn.cut]
    split
    · simp only [List.length_cons]; omega
    · simp only [List.length_cons, List.length_tail]; omega

set_option maxHeartbeats 2000000 in
theorem rcut_any : ∀ (n : Nat) (s : ByteArray) (w : World), s.size ≤ n → n ≤ 4194304 →
    Calls Tryd.prog 21 #[.string s] w (RcOut s w) := by
  intro n
  induction n using Nat.strongRecOn with
  | ind n ih =>
  intro s w hsn hn
  have hI := Tryd.strings_IndexByte s 47 w
  rw [show ((47 : Int).toNat.toUInt8) = 47 from rfl] at hI
  rcases Nn.ix_cases 47 s.data.toList with ⟨hix, _⟩ | ⟨i, hix, hroom, _⟩
  · have HC : Hid (Nn.cut s.data.toList = [s.data.toList]) := Nn.cut_none hix
    rw [hix] at hI
    clear hix ih
    go_enter Tryd.func21, Tryd.ntmps21
    go_wp2_with fail
    refine hI.mono ?_
    rintro e u ⟨rfl, hu⟩
    obtain rfl := hu.symm
    go_wp2_with fail
    go_ret
    exact ⟨_, [s], rfl, by rw [HC.out]; rfl, fun t ht => by rw [List.mem_singleton.1 ht]; exact Nat.le_refl _, own_one _ _ (Nat.le_refl _) s, (Below.refl _ _).alloc (Nat.le_refl _) _⟩
  · rw [← Lib.size_eq] at hroom
    obtain ⟨x, hx⟩ : ∃ x, s.extract 0 i = x := ⟨_, rfl⟩
    obtain ⟨r, hr⟩ : ∃ r, s.extract (i + 1) s.size = r := ⟨_, rfl⟩
    have HC : Hid (Nn.cut s.data.toList = x.data.toList :: Nn.cut r.data.toList ∧ x.size ≤ s.size ∧ r.size < s.size) := by
      refine ⟨?_, ?_, ?_⟩
      · rw [Nn.cut_at hix, ← hx, ← hr, Lib.extract_from_zero, Nn.ext_drop]
      · rw [← hx, ByteArray.size_extract]; omega
      · rw [← hr, ByteArray.size_extract]; omega
    have hcall : ∀ W, Calls Tryd.prog 21 #[.string r] W (RcOut r W) := fun W => ih r.size (by have := HC.out.2.2; omega) r W (Nat.le_refl _) (by have := HC.out.2.2; omega)
    have c2 : (↑i : Int) ≤ ↑s.size := by omega
    have c4 : (↑i + 1 : Int) ≤ ↑s.size := by omega
    have c3 : (0 : Int) ≤ ↑i + 1 := by omega
    have c5 : (0 : Int) ≤ (i : Int) := by omega
    rw [hix] at hI
    have hwr : IntKind.i64.wrap ((i : Int) + 1) = (i : Int) + 1 := by
      simp only [IntKind.wrap, IntKind.bits, IntKind.signed]
      simp
      omega
    clear hix ih
    obtain ⟨i0, hi, hz0, hz1, hz2⟩ := info_of info_tx
    go_enter Tryd.func21, Tryd.ntmps21
    go_wp2_with fail
    refine hI.mono ?_
    rintro e u ⟨rfl, hu⟩
    obtain rfl := hu.symm
    go_wp2_with fail
    refine wp_region_rel_tail (G := Gw) (W0 := w) 9 4 Gw.refl Gw.trans (by kernel_rfl) (by decide) (by kernel_rfl) (by kernel_rfl) (.inr (by kernel_rfl)) (Below.refl _ w).drew ?_
    refine .inl ⟨.string s, fun v W hW hd => step_run rfl _ W (by clear hd; go_simp) rfl (Gw.refl _), ?_⟩
    simp only [Act.put, List.setIfInBounds_toArray, List.set_cons_zero, List.set_cons_succ]
    refine .inl ⟨.int .i64 i, fun v W hW hd => step_run rfl _ W (by clear hd; go_simp) rfl (Gw.refl _), ?_⟩
    simp only [Act.put, List.setIfInBounds_toArray, List.set_cons_zero, List.set_cons_succ]
    refine .inl ⟨.string x, fun v W hW hd => step_run rfl _ W (by clear hd; go_simp) rfl (Gw.refl _), ?_⟩
    simp only [Act.put, List.setIfInBounds_toArray, List.set_cons_zero, List.set_cons_succ]
    refine .inr ⟨One w.heap.size x, One.past, fun v W hW _ => step_run rfl _ (W.alloc (.cells #[.string x] 9)) (by go_simp) ⟨_, rfl, own_one W _ hW.size x⟩ ((Below.refl _ W).alloc (Nat.le_refl _) _), ?_⟩
    simp only [Act.put, List.setIfInBounds_toArray, List.set_cons_zero, List.set_cons_succ]
    refine .inl ⟨.string s, fun v W hW hd => step_run rfl _ W (by clear hd; go_simp) rfl (Gw.refl _), ?_⟩
    simp only [Act.put, List.setIfInBounds_toArray, List.set_cons_zero, List.set_cons_succ]
    refine .inl ⟨.int .i64 i, fun v W hW hd => step_run rfl _ W (by clear hd; go_simp) rfl (Gw.refl _), ?_⟩
    simp only [Act.put, List.setIfInBounds_toArray, List.set_cons_zero, List.set_cons_succ]
    refine .inl ⟨.int .i64 ((i : Int) + 1), fun v W hW hd => step_run rfl _ W (by clear hd; go_simp) rfl (Gw.refl _), ?_⟩
    simp only [Act.put, List.setIfInBounds_toArray, List.set_cons_zero, List.set_cons_succ]
    refine .inl ⟨.string r, fun v W hW hd => step_run rfl _ W (by clear hd; go_simp) rfl (Gw.refl _), ?_⟩
    simp only [Act.put, List.setIfInBounds_toArray, List.set_cons_zero, List.set_cons_succ]
    refine .inr ⟨Cs r s.size, Cs.past, fun v W hW _ => step_call rfl 21 #[.string r] (by go_simp) ((hcall W).mono fun e w' ⟨v', l, h1, h2, h3, h4, h5⟩ => ⟨v', h1, ⟨l, h2, fun t ht => Nat.le_trans (h3 t ht) (by have := HC.out.2.2; omega), Tx.of_own h4⟩, h5⟩), ?_⟩
    simp only [Act.put, List.setIfInBounds_toArray, List.set_cons_zero, List.set_cons_succ]
    intro v W hW hV
    have h3 : One w.heap.size x (v 3) W := hV 3 (by decide)
    have h8 : Cs r s.size (v 8) W := hV 8 (by decide)
    clear hV
    obtain ⟨g3, e3, o3⟩ := h3
    obtain ⟨l, d8, k8, x8⟩ := h8
    have hl0 : 1 ≤ l.length := by
      rw [← dl_length, d8]
      exact List.length_pos_iff.2 (Nn.cut_ne _)
    have hl1 : l.length ≤ s.size + 1 := by
      rw [← dl_length, d8]
      have := Nn.cut_len r.data.toList
      rw [← Lib.size_eq] at this
      have := HC.out.2.2
      omega
    obtain ⟨a8, c8, e8⟩ := x8.slice
    rw [e8] at x8
    rw [e3] at o3
    have hsrc := x8.src
    obtain ⟨bk, o, ha, hbk, _⟩ := x8.get 0 (by omega)
    subst ha
    have hsz := hW.size
    simp only [Nat.reduceAdd]
    rw [e3, e8]
    clear e3 e8 hcall hx hr
    refine wpAny_ready (rs := [9]) (by kernel_rfl) (by simp) ?_
    refine AllReady.cons rfl (fun K hK => ?_) AllReady.nil
    rw [if_pos (by rfl)]
    refine wp_append_own W (.tmp 13) (.tmp 18) 30 rfl w.heap.size 9 i0 (.string ⟨#[]⟩) 1 16 Tryd.underlying30 hi hz0 hz1 hz2 rfl (by decide) _ 1 _ rfl o3 ⟨bk, o, none⟩ l.length c8 (l.map Tv) rfl (by simp) (hsrc.2 _ rfl) (tv_one l) (by unfold maxLen; omega) (by omega) hsz ?_
    intro v' w' hown hgrow _
    have HO : Hid (w'.ownsRow w.heap.size 9 1 v' (x :: l).length ((x :: l).map Tv)) := by
      have := hown
      rw [← List.map_append, Nat.add_comm] at this
      exact this
    have HB : Hid (Below w.heap.size w w') := (Below.mono hW (Nat.le_refl _)).grown hgrow hsz fun k hk => by cases hk; exact (o3.lt _ rfl).1
    have HD : Hid (dl (x :: l) = Nn.cut s.data.toList ∧ ∀ t ∈ x :: l, t.size ≤ s.size) := by
      refine ⟨?_, fun t ht => ?_⟩
      · rw [HC.out.1, ← d8]; rfl
      · rcases List.mem_cons.1 ht with rfl | ht
        · exact HC.out.2.1
        · exact k8 t ht
    refine hK _ _ ?_
    clear hK K hown hgrow o3 x8 hsrc d8 k8
    refine wpAny_ready (rs := [10]) (by kernel_rfl) (by simp) ?_
    refine AllReady.cons rfl (fun K hK => ?_) AllReady.nil
    go_simp
    refine hK _ _ ?_
    clear hK K
    refine wpAny_done (by kernel_rfl) ?_ _
    go_wp2_with fail
    go_ret
    exact ⟨_, x :: l, rfl, HD.out.1, HD.out.2, HO.out, HB.out⟩
end Go.Proofs.YtfcnlfblfennaaaDoor
