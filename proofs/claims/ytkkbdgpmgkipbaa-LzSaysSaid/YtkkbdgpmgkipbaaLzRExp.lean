/-
  What Expand of package lumref answers.
-/
import Derived.Test.YtkkbdgpmgkipbaaLzRText
import Derived.Test.YtkkbdgpmgkipbaaShelfRep
namespace Go.Proofs.Ytkkbdgpmgkipbaa
open Go.RowKit

set_option maxHeartbeats 400000 in
theorem rexpand_arg (v : Value) (most : Int) (w : World) (h : most < 0 ∨ 4096 < most) :
    Calls Try.prog 10 #[v, .int .i64 most] w fun e w' => e = .returned (.tuple #[.string ⟨#[]⟩, .int .i64 1]) ∧ w' = w := by
  rcases h with h | h
  · go_enter Try.func10, Try.ntmps10
    go_wp2_with fail
    go_ret2
    exact ⟨rfl, rfl⟩
  · have h0 : decide (most < 0) = false := decide_eq_false (by omega)
    have h1 : decide (4096 < most) = true := decide_eq_true h
    go_enter Try.func10, Try.ntmps10
    go_wp2_with fail
    go_ret2
    exact ⟨rfl, rfl⟩

set_option maxHeartbeats 400000 in
theorem rexpand_chk (v : Value) (l : List Lz.Tr) (M : Nat) (w : World) (h : Toks w v l) (hl : l.length ≤ 140737488351232) (hM : M ≤ 4096) (hc : Lz.chk l ≠ 0) :
    Calls Try.prog 10 #[v, .int .i64 M] w fun e w' => e = .returned (.tuple #[.string ⟨#[]⟩, .int .i64 (Lz.chk l)]) ∧ Below w.heap.size w w' := by
  have hk := rcheck_any v l w h hl
  generalize Lz.chk l = c at *
  have hq : ((c : Int) != 0) = true := by rw [bne_iff_ne]; omega
  have h0 : decide ((M : Int) < 0) = false := decide_eq_false (by omega)
  have h1 : decide (4096 < (M : Int)) = false := decide_eq_false (by omega)
  go_enter Try.func10, Try.ntmps10
  go_wp2_with fail
  refine hk.mono ?_
  rintro e w1 ⟨rfl, hb1⟩
  go_wp2_with fail
  go_ret2
  exact ⟨rfl, hb1⟩

/-- the bytes that a copy repeats -/
theorem seed_ext (out : List UInt8) (m : Nat) : (⟨out.toArray⟩ : ByteArray).extract m out.length = ⟨(out.drop m).toArray⟩ := by
  apply ByteArray.ext
  apply Array.toList_inj.1
  rw [ByteArray.data_extract]
  simp [List.extract_eq_take_drop]
  rw [List.take_of_length_le (by rw [List.length_drop]; omega)]
theorem head_ext (r : List UInt8) (n : Nat) : (⟨r.toArray⟩ : ByteArray).extract 0 n = ⟨(r.take n).toArray⟩ := by
  apply ByteArray.ext
  apply Array.toList_inj.1
  rw [ByteArray.data_extract]
  simp [List.extract_eq_take_drop]

set_option maxHeartbeats 2000000 in
theorem rexpand_in (v : Value) (l : List Lz.Tr) (M : Nat) (R : Lz.Bs × Nat) (w : World) (h : Toks w v l) (hM : M ≤ 4096) (hc : Lz.chk l = 0) (hR : Lz.ex M [] (l.map Lz.Tr.tok) = R) :
    Calls Try.prog 10 #[v, .int .i64 M] w fun e w' => e = .returned (.tuple #[.string ⟨R.1.toArray⟩, .int .i64 R.2]) ∧ Below w.heap.size w w' := by
  obtain ⟨hl, hf⟩ := Lz.chk_zero hc
  have hk := rcheck_any v l w h (by omega)
  rw [hc] at hk
  have HF : Hid (∀ t ∈ l, t.form) := hf
  have HR : Hid (Lz.ex M [] (l.map Lz.Tr.tok) = R) := hR
  have HT : Hid (Toks w v l) := h
  obtain ⟨a, c, rfl⟩ := h.slice
  have h0 : decide ((M : Int) < 0) = false := decide_eq_false (by omega)
  have h1 : decide (4096 < (M : Int)) = false := decide_eq_false (by omega)
  clear hf hR hc h
  go_enter Try.func10, Try.ntmps10
  go_wp2_with fail
  refine hk.mono ?_
  rintro e w1 ⟨rfl, hb1⟩
  clear hk
  go_wp2_with fail
  go_loopw [7, 25] (fun v i wr => ∃ (k : Nat) (out : List UInt8), k ≤ l.length ∧ out.length ≤ M ∧ i = .int .i64 k ∧ v = .string ⟨out.toArray⟩ ∧ Hid (Lz.ex M out ((l.drop k).map Lz.Tr.tok) = R) ∧ Below w.heap.size w wr) (fun _ i _ => l.length - (intOf i).toNat)
  case atStart => exact ⟨0, [], by omega, by simp, rfl, rfl, HR, hb1⟩
  case round =>
    obtain ⟨k, out, hkl, hout, rfl, rfl, hex, hbel⟩ := hrel
    have hosz : (⟨out.toArray⟩ : ByteArray).size = out.length := by show out.toArray.size = _; simp
    by_cases hlt : k < l.length
    · obtain ⟨bk, o, rfl, _, hbk, c0, c1, c2⟩ := (HT.out.below (Nat.le_refl _) hbel).get k hlt
      obtain ⟨hraw, hgood⟩ := Lz.Tr.tok_raw (HF.out l[k] (List.getElem_mem hlt))
      have hstep : l.drop k = l[k] :: l.drop (k + 1) := List.drop_eq_getElem_cons hlt
      have HE : Hid (Lz.ex M out (l[k].tok :: (l.drop (k + 1)).map Lz.Tr.tok) = R) := by
        have := hex.out
        rw [hstep, List.map_cons] at this
        exact this
      clear hstep hex
      generalize l[k] = t at *
      generalize t.tok = u at *
      subst hraw
      obtain ⟨b, n, d⟩ := u
      dsimp only [Lz.Tk.raw] at c0 c1 c2
      have hn2 : n ≤ 255 := by rcases hgood with ⟨h1, _⟩ | ⟨_, _, h1, _⟩ <;> simp at h1 <;> omega
      rw [Lz.ex] at HE
      have HL := Lz.make_length ⟨b, n, d⟩ out
      have HZ : Hid ((Lz.Tk.mk b n d).size = if n = 0 then 1 else n) := rfl
      generalize (Lz.Tk.mk b n d).size = z at *
      have hbs := hbel.size
      by_cases hd : out.length < d
      · have HR4 : Hid (R = ([], 4)) := by
          have h := HE.out
          rw [if_pos hd] at h
          exact h.symm
        clear HE
        have hq : decide ((out.length : Int) < (d : Int)) = true := decide_eq_true (by omega)
        go_wp2_with fail
        go_ret2
        exact ⟨by rw [HR4.out]; rfl, hbel.alloc hbs _⟩
      have hd' : d ≤ out.length := by omega
      have hq : decide ((out.length : Int) < (d : Int)) = false := decide_eq_false (by omega)
      by_cases hn : n = 0
      · subst hn
        have hz1 : z = 1 := HZ.out
        subst hz1
        by_cases hz : M < out.length + 1
        · have HR2 : Hid (R = ([], 2)) := by
            have h := HE.out
            rw [if_neg hd, if_pos hz] at h
            exact h.symm
          have hq2 : decide ((M : Int) < (out.length : Int) + 1) = true := decide_eq_true (by omega)
          clear HE
          go_wp2_with fail
          go_ret2
          exact ⟨by rw [HR2.out]; rfl, hbel.alloc hbs _⟩
        · have HE2 : Hid (Lz.ex M (out ++ [b]) ((l.drop (k + 1)).map Lz.Tr.tok) = R) := by
            have h := HE.out
            rw [if_neg hd, if_neg hz] at h
            exact h
          have hq2 : decide ((M : Int) < (out.length : Int) + 1) = false := decide_eq_false (by omega)
          have hst := str_one (wr.alloc (.cells #[.int .u8 b.toNat, .int .i64 0, .int .i64 d] 33)) b
          rw [World.size_alloc] at hst
          have hcat : ∀ W : World, (Op.stringOp .add ⟨out.toArray⟩ ⟨#[b]⟩).run Try.prog W = .ok (.string ⟨(out ++ [b]).toArray⟩) W := fun W => run_string_add_lists W _ [b] (by omega) (by simp)
          have HB3 : Hid (Below w.heap.size w ((wr.alloc (.cells #[.int .u8 b.toNat, .int .i64 0, .int .i64 d] 33)).alloc (.cells #[.int .u8 b.toNat] 5))) := (hbel.alloc hbs _).alloc (by simp; omega) _
          clear HE hbel
          go_wp2_with fail
          go_roundw
          case rel => exact ⟨k + 1, out ++ [b], by omega, by simp; omega, by go_num, rfl, HE2, HB3.out⟩
          case measure => simp only [intOf]; omega
      · have hzn : z = n := by have := HZ.out; rw [if_neg hn] at this; exact this
        subst hzn
        have hq0 : ((z : Int) == 0) = false := by rw [beq_eq_false_iff_ne]; omega
        have hd1 : 1 ≤ d := by rcases hgood with ⟨h1, _⟩ | ⟨_, _, _, h1, _⟩ <;> dsimp only at * <;> omega
        by_cases hz : M < out.length + z
        · have HR2 : Hid (R = ([], 2)) := by
            have h := HE.out
            rw [if_neg hd, if_pos hz] at h
            exact h.symm
          have hq2 : decide ((M : Int) < (out.length : Int) + (z : Int)) = true := decide_eq_true (by omega)
          clear HE hn
          go_wp2_with fail
          go_ret2
          exact ⟨by rw [HR2.out]; rfl, hbel.alloc hbs _⟩
        · have HE2 : Hid (Lz.ex M ((Lz.Tk.mk b z d).make out) ((l.drop (k + 1)).map Lz.Tr.tok) = R) := by
            have h := HE.out
            rw [if_neg hd, if_neg hz] at h
            exact h
          have hmk : (Lz.Tk.mk b z d).make out = Lz.cpy out d z := if_neg hn
          rw [hmk, Lz.cpy_rep out d z hd1 hd'] at HE2
          have hq2 : decide ((M : Int) < (out.length : Int) + (z : Int)) = false := decide_eq_false (by omega)
          obtain ⟨m, hm⟩ : ∃ m, m = out.length - d := ⟨_, rfl⟩
          rw [← hm] at HE2
          have i3 : (out.length : Int) - (d : Int) = (m : Int) := by omega
          have hml : m ≤ out.length := by omega
          have hse := seed_ext out m
          have hsl : (out.drop m).length = d := by rw [List.length_drop]; omega
          generalize out.drop m = sd at *
          have hss : (⟨sd.toArray⟩ : ByteArray).size = d := by show sd.toArray.size = d; simpa using hsl
          obtain ⟨cn, hcn⟩ : ∃ cn, cn = z / d := ⟨_, rfl⟩
          have hqu : Int.tdiv (z : Int) (d : Int) = (cn : Int) := by rw [hcn]; rfl
          rw [← hcn] at HE2
          have hcnz : cn ≤ 255 := by rw [hcn]; exact Nat.le_trans (Nat.div_le_self _ _) hn2
          have hrep : ∀ V, Calls Try.prog 22 #[.string ⟨sd.toArray⟩, .int .i64 ((cn : Int) + 1)] V fun e w' => e = .returned (.string ⟨(Lib.repeatL sd (cn + 1)).toArray⟩) ∧ Below V.heap.size V w' := fun V => Try.strings_Repeat ⟨sd.toArray⟩ (cn + 1) V (by omega) (by rw [hss]; have : d * (cn + 1) ≤ 4096 * 256 := Nat.mul_le_mul (by omega) (by omega); omega)
          have hrl : z ≤ (Lib.repeatL sd (cn + 1)).length := by
            rw [Lib.repeatL_length, hsl, hcn]
            have h := Nat.div_add_mod z d
            have h2 := Nat.mod_lt z (show d > 0 by omega)
            rw [Nat.succ_mul, Nat.mul_comm]
            omega
          generalize Lib.repeatL sd (cn + 1) = rp at *
          have hrs : (⟨rp.toArray⟩ : ByteArray).size = rp.length := by show rp.toArray.size = _; simp
          have hhe := head_ext rp z
          have htk : (rp.take z).length = z := by rw [List.length_take]; omega
          generalize rp.take z = tk at *
          have hcat : ∀ W : World, (Op.stringOp .add ⟨out.toArray⟩ ⟨tk.toArray⟩).run Try.prog W = .ok (.string ⟨(out ++ tk).toArray⟩) W := fun W => run_string_add_lists W _ _ (by omega) (by omega)
          clear HE hm hcn hmk
          go_wp2_with fail
          refine (hrep _).mono ?_
          rintro e w2 ⟨rfl, hb2⟩
          have HB2 : Hid (Below w.heap.size w w2) := (hbel.alloc hbs _).trans (hb2.mono (by simp; omega))
          clear hrep hb2 hbel c0 c1 c2 hse
          go_wp2_with fail
          go_roundw
          case rel => exact ⟨k + 1, out ++ tk, by omega, by rw [List.length_append]; omega, by go_num, rfl, HE2, HB2.out⟩
          case measure => simp only [intOf]; omega
    · have HRE : Hid (R = (out, 0)) := by
        have := hex.out
        rw [List.drop_eq_nil_of_le (by omega)] at this
        exact this.symm
      clear hex
      go_wp2_with fail
      go_ret2
      exact ⟨by rw [HRE.out]; rfl, hbel⟩
theorem rexpand_any (v : Value) (l : List Lz.Tr) (most : Int) (w : World) (h : Toks w v l) (hl : l.length ≤ 140737488351232) :
    Calls Try.prog 10 #[v, .int .i64 most] w fun e w' => e = .returned (.tuple #[.string ⟨(Lz.expd l most).1.toArray⟩, .int .i64 (Lz.expd l most).2]) ∧ Below w.heap.size w w' := by
  unfold Lz.expd
  by_cases hm : most < 0 ∨ 4096 < most
  · rw [if_pos hm]
    refine (rexpand_arg v most w hm).mono ?_
    rintro e w' ⟨rfl, rfl⟩
    exact ⟨rfl, Below.refl _ _⟩
  · rw [if_neg hm]
    obtain ⟨M, rfl⟩ := Int.eq_ofNat_of_zero_le (show 0 ≤ most by omega)
    by_cases hc : Lz.chk l = 0
    · rw [if_pos hc]
      exact rexpand_in v l M _ w h (by omega) hc rfl
    · rw [if_neg hc]
      exact rexpand_chk v l M w h hl (by omega) hc
end Go.Proofs.Ytkkbdgpmgkipbaa
