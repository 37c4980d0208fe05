/-
  The walk of the statement IndexBack: it answers true.
-/
import Derived.Test.YtllioidjelgafabPlRead
import Derived.Test.YtllioidjelgafabPlText
import Derived.Test.YtllioidjelgafabPlOpen
namespace Go.Proofs.Ytllioidjelgafab
open Go.RowKit
set_option maxRecDepth 4000

theorem rowT_le (p : Ix.Pl) (h : p.id.length = 8) : (Ix.rowT p).length ≤ 36 := by
  have h1 := Nm.put_length p.pack.toNat
  have h2 := Nm.put_length p.at_.toNat
  have h3 := Nm.put_length p.len.toNat
  unfold Ix.rowT
  simp only [List.length_append, List.length_cons, h]
  omega
theorem rowsT_le : ∀ x : List Ix.Pl, (∀ p ∈ x, p.id.length = 8) → (Ix.rowsT x).length ≤ 36 * x.length
  | [], _ => by simp [Ix.rowsT]
  | p :: x, h => by
    have h1 := rowT_le p (h p List.mem_cons_self)
    have h2 := rowsT_le x fun q hq => h q (List.mem_cons_of_mem _ hq)
    unfold Ix.rowsT at h2 ⊢
    simp only [List.map_cons, List.flatten_cons, List.length_append, List.length_cons]
    omega
theorem textB_le {l : List Plc} (h : Ix.check (ps l) = 0) : (Ix.textB (ps l)).length ≤ 15000 := by
  have h1 := (Ix.check_ok.1 h).1
  have h2 := rowsT_le (ps l) (ps_ids l)
  have h3 := Nm.put_length (ps l).length
  unfold Ix.textB
  rw [List.length_append]
  omega
theorem sp1_check : Ix.check (ps [sp1]) = 0 := by decide
theorem sp1_text : 9 ≤ (Ix.textB (ps [sp1])).length := by
  unfold Ix.textB Ix.rowsT
  simp only [ps, List.map_cons, List.map_nil, List.flatten_cons, List.flatten_nil, List.append_nil, List.length_append]
  unfold Ix.rowT
  simp only [List.length_append, List.length_cons]
  have : sp1.p.id.length = 8 := rfl
  omega
theorem text_tell {v : Value} {l : List Plc} {w : World} {c : Int} (hc : Ix.check (ps l) = c) (hl : l.length ≤ 140737488351232) (h : Px w v l) :
    Calls Try.prog 5 #[v] w fun e w' => ∃ s : ByteArray, e = .returned (.tuple #[.string s, .int .i64 c]) ∧ s.data.toList = (if c = 0 then Ix.textB (ps l) else []) ∧ Below w.heap.size w w' := by
  subst hc
  exact text_any v l w h hl
theorem text_size {s : ByteArray} {l : List Plc} {c : Int} (hc : Ix.check (ps l) = c) (h : s.data.toList = (if c = 0 then Ix.textB (ps l) else [])) : s.size ≤ 15000 := by
  rw [Lib.size_eq s, h]
  by_cases c0 : c = 0
  · rw [if_pos c0]; exact textB_le (by rw [hc, c0])
  · rw [if_neg c0]; simp

set_option maxHeartbeats 8000000 in
theorem indexBack_walk (v0 : Value) (l0 : List Plc) (a1 : ByteArray) (z0 : l0.length ≤ 140737488351232) (_ : PsOk l0) (z1 : a1.size ≤ 140737488351232) (w : World) (t0 : Px w v0 l0) :
    Calls Try.prog 3 #[v0, .string a1] w fun e w' => e = .returned (.bool true) ∧ Below w.heap.size w w' := by
  obtain ⟨s0, c0, rfl, _, _⟩ := t0.slice
  have T0 : Hid (Px w (.slice s0 l0.length c0) l0) := t0
  have hsp := fun W => some_place W
  obtain ⟨ec, hec⟩ : ∃ ec, Ix.check (ps l0) = ec := ⟨_, rfl⟩
  obtain ⟨oz, g, hz⟩ : ∃ o g, Ix.read a1.data.toList = (o, g) := ⟨_, _, rfl⟩
  have EC : Hid (Ix.check (ps l0) = ec) := hec
  have HZ : Hid (Ix.read a1.data.toList = (oz, g)) := hz
  clear t0 hec hz
  go_enter Try.func3, Try.ntmps3
  go_upto_region 2 with (first
    | (go_at_call 6; refine (hsp _).mono ?_; rintro e w1 ⟨rfl, b1⟩)
    | (go_at_call 5; refine (text_tell sp1_check (by simp) (one_px w1)).mono ?_; rintro e w2 ⟨s3, rfl, hs3, b2⟩))
  have h9 : 9 ≤ s3.size := by have h3 := hs3; simp only [if_true] at h3; rw [Lib.size_eq s3, h3]; exact sp1_text
  have hd : decide ((s3.size : Int) < 9) = false := decide_eq_false (by omega)
  have hd' : decide (s3.size < 9) = false := decide_eq_false (by omega)
  have hd2 : (s3.size < 9) = False := eq_false (by omega)
  have B2 : Hid (Below w.heap.size w w2) := b1.trans (((Below.refl _ w1).alloc (Nat.le_refl _) _).mono b1.size |>.trans (b2.mono (by show _ ≤ (w1.heap.push _).size; have := b1.size; simp; omega)))
  clear b1 b2 hsp hs3 h9
  go_upto_region 4 with fail
  clear hd hd' hd2
  go_upto_region 5 with (go_at_call 5; refine (text_tell EC.out z0 (T0.out.below B2.out)).mono ?_; rintro e w3 ⟨s4, rfl, hs4, b3⟩)
  have B3 : Hid (Below w.heap.size w w3) := below_t B2.out b3
  have S4 : Hid (s4.size ≤ 140737488351232) := by show s4.size ≤ _; have := text_size EC.out hs4; omega
  have HS4 : Hid (s4.data.toList = (if ec = 0 then Ix.textB (ps l0) else [])) := hs4
  clear b3 hs4
  by_cases e0 : ec = 0
  · subst e0
    have HY : Hid (Ix.read s4.data.toList = (ps l0, 0)) := by
      show _ = _
      rw [HS4.out, if_pos rfl]
      exact Ix.read_text (ps_ids l0) EC.out
    go_upto_region 6 with (go_at_call 7; refine (read_tell HY.out S4.out).mono ?_; rintro e w4 ⟨s5, c5, l5, rfl, m5⟩)
    have B4 : Hid (Below w.heap.size w w4) := below_t B3.out m5.bel
    have E5 : Hid (l0 = l5) := (pls_once m5.is).symm
    have P5 : Hid (Px w4 (.slice s5 l5.length c5) l5) := m5.px
    clear m5
    have heq := equal_tell E5.out z0 (T0.out.below B4.out) P5.out
    go_upto_region 8 with (go_at_call 8; refine heq.mono ?_; rintro e w5 ⟨rfl, b5⟩)
    have B5 : Hid (Below w.heap.size w w5) := below_t B4.out b5
    clear b5 heq P5 E5 B4
    go_upto_region 9 with (go_at_call 7; refine (read_tell HZ.out z1).mono ?_; rintro e w6 ⟨s6, c6, l6, rfl, m6⟩)
    have B6 : Hid (Below w.heap.size w w6) := below_t B5.out m6.bel
    have P6 : Hid (Px w6 (.slice s6 l6.length c6) l6) := m6.px
    have I6 : Hid (ps l6 = oz) := m6.is
    clear m6
    by_cases g0 : g = 0
    · subst g0
      have HT := Ix.text_read HZ.out
      have C6 : Hid (Ix.check (ps l6) = 0) := by show _ = _; rw [I6.out]; exact HT.2.1
      have L6 : Hid (l6.length ≤ 140737488351232) := by show l6.length ≤ _; have h := (Ix.check_ok.1 C6.out).1; rw [List.length_map] at h; omega
      have X6 : Hid (Ix.textB (ps l6) = a1.data.toList) := by show _ = _; rw [I6.out]; exact HT.2.2
      clear HT
      go_upto_region 10 with (go_at_call 5; refine (text_tell C6.out L6.out P6.out).mono ?_; rintro e w7 ⟨s7, rfl, hs7, b7⟩)
      have B7 : Hid (Below w.heap.size w w7) := below_t B6.out b7
      have h7 : s7 = a1 := by
        simp only [if_true] at hs7
        rw [X6.out] at hs7
        apply ByteArray.ext
        exact Array.toList_inj.1 hs7
      subst h7
      clear hs7 b7 C6 L6 X6 P6
      go_wp2_with fail
      go_ret
      exact ⟨rfl, B7.out⟩
    · have ho : oz = [] := by have := Ix.read_bad (s := a1.data.toList) (by rw [HZ.out]; exact g0); rwa [HZ.out] at this
      have h6 : l6 = [] := by have := I6.out; rw [ho] at this; exact List.map_eq_nil_iff.1 this
      subst h6
      have P7 : Hid (Px w6 (.slice s6 0 c6) []) := P6.out
      have hqe : (g == 0) = false := by simpa using g0
      have hqe' : (g != 0) = true := by simpa using g0
      obtain ⟨ek, hek⟩ : ∃ ec, Ix.check (ps []) = ec := ⟨_, rfl⟩
      have EK : Hid (Ix.check (ps []) = ek) := hek
      clear hek P6 g0 ho
      go_upto_region 10 with (go_at_call 5; refine (text_tell EK.out (by simp) P7.out).mono ?_; rintro e w7 ⟨s7, rfl, hs7, b7⟩)
      have B7 : Hid (Below w.heap.size w w7) := below_t B6.out b7
      clear hs7 b7 P7
      go_wp2_with fail
      go_ret
      exact ⟨rfl, B7.out⟩
  · obtain ⟨oy, f, hy⟩ : ∃ o f, Ix.read s4.data.toList = (o, f) := ⟨_, _, rfl⟩
    have HY : Hid (Ix.read s4.data.toList = (oy, f)) := hy
    have hqe : (ec == 0) = false := by simpa using e0
    clear hy e0
    go_upto_region 6 with (go_at_call 7; refine (read_tell HY.out S4.out).mono ?_; rintro e w5 ⟨s5, c5, l5, rfl, m5⟩)
    have B5 : Hid (Below w.heap.size w w5) := below_t B3.out m5.bel
    clear m5
    go_upto_region 8 with fail
    clear hqe
    go_upto_region 9 with (go_at_call 7; refine (read_tell HZ.out z1).mono ?_; rintro e w6 ⟨s6, c6, l6, rfl, m6⟩)
    have B6 : Hid (Below w.heap.size w w6) := below_t B5.out m6.bel
    have P6 : Hid (Px w6 (.slice s6 l6.length c6) l6) := m6.px
    have I6 : Hid (ps l6 = oz) := m6.is
    clear m6
    by_cases g0 : g = 0
    · subst g0
      have HT := Ix.text_read HZ.out
      have C6 : Hid (Ix.check (ps l6) = 0) := by show _ = _; rw [I6.out]; exact HT.2.1
      have L6 : Hid (l6.length ≤ 140737488351232) := by show l6.length ≤ _; have h := (Ix.check_ok.1 C6.out).1; rw [List.length_map] at h; omega
      have X6 : Hid (Ix.textB (ps l6) = a1.data.toList) := by show _ = _; rw [I6.out]; exact HT.2.2
      clear HT
      go_upto_region 10 with (go_at_call 5; refine (text_tell C6.out L6.out P6.out).mono ?_; rintro e w7 ⟨s7, rfl, hs7, b7⟩)
      have B7 : Hid (Below w.heap.size w w7) := below_t B6.out b7
      have h7 : s7 = a1 := by
        simp only [if_true] at hs7
        rw [X6.out] at hs7
        apply ByteArray.ext
        exact Array.toList_inj.1 hs7
      subst h7
      clear hs7 b7 C6 L6 X6 P6
      go_wp2_with fail
      go_ret
      exact ⟨rfl, B7.out⟩
    · have ho : oz = [] := by have := Ix.read_bad (s := a1.data.toList) (by rw [HZ.out]; exact g0); rwa [HZ.out] at this
      have h6 : l6 = [] := by have := I6.out; rw [ho] at this; exact List.map_eq_nil_iff.1 this
      subst h6
      have P7 : Hid (Px w6 (.slice s6 0 c6) []) := P6.out
      have hqe : (g == 0) = false := by simpa using g0
      have hqe' : (g != 0) = true := by simpa using g0
      obtain ⟨ek, hek⟩ : ∃ ec, Ix.check (ps []) = ec := ⟨_, rfl⟩
      have EK : Hid (Ix.check (ps []) = ek) := hek
      clear hek P6 g0 ho
      go_upto_region 10 with (go_at_call 5; refine (text_tell EK.out (by simp) P7.out).mono ?_; rintro e w7 ⟨s7, rfl, hs7, b7⟩)
      have B7 : Hid (Below w.heap.size w w7) := below_t B6.out b7
      clear hs7 b7 P7
      go_wp2_with fail
      go_ret
      exact ⟨rfl, B7.out⟩
end Go.Proofs.Ytllioidjelgafab
