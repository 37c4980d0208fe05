/-
  What Read of package lz answers.
-/
import Derived.Test.YtgdkfaphbbdnbaaLzRt
import Derived.Test.YtgdkfaphbbdnbaaLzGr
import Derived.Test.YtgdkfaphbbdnbaaLzExp
namespace Go.Proofs.Ytgdkfaphbbdnbaa
open Go.RowKit
set_option maxRecDepth 4000

namespace Lz
theorem rdA_rt (out : List Tk) (X : Bs) (h : X ≠ []) :
    rdA out X = (if (rt X).2.2 = 0 then (if out.length = 4096 then ([], 2) else rdA (out ++ [(rt X).1.tok]) (X.drop (rt X).2.1)) else ([], (rt X).2.2)) ∧
    ((rt X).2.2 = 0 → (rt X).1.tok.raw = (rt X).1 ∧ 1 ≤ (rt X).2.1 ∧ (rt X).2.1 ≤ X.length) := by
  match X with
  | [] => exact absurd rfl h
  | [a] => exact ⟨rfl, fun e => by simp [rt] at e⟩
  | [a, x] =>
    by_cases h0 : a = 0
    · subst h0
      exact ⟨rdA_letter out x [], fun _ => ⟨rfl, by simp [rt], by simp [rt]⟩⟩
    · have e : rt [a, x] = (⟨0, 0, 0⟩, 0, 3) := if_neg h0
      rw [e, rdA_short out a x h0]
      exact ⟨rfl, fun h => by simp at h⟩
  | a :: x :: y :: r =>
    by_cases h0 : a = 0
    · have e : rt (a :: x :: y :: r) = (⟨x, 0, 0⟩, 2, 0) := if_pos h0
      rw [e, h0]
      exact ⟨rdA_letter out x (y :: r), fun _ => ⟨rfl, by dsimp only; omega, by simp⟩⟩
    · rw [rdA_copy out a x y r h0]
      by_cases hd : 1 ≤ x.toNat + 256 * y.toNat ∧ x.toNat + 256 * y.toNat ≤ 1024
      · have e : rt (a :: x :: y :: r) = (⟨0, a.toNat, (x.toNat + 256 * y.toNat : Nat)⟩, 3, 0) := (if_neg h0).trans (if_pos hd)
        rw [e, if_neg (by omega)]
        exact ⟨rfl, fun _ => ⟨rfl, by dsimp only; omega, by simp⟩⟩
      · have e : rt (a :: x :: y :: r) = (⟨0, 0, 0⟩, 0, 4) := (if_neg h0).trans (if_neg hd)
        rw [e, if_pos (by omega)]
        exact ⟨rfl, fun h => by simp at h⟩
/-- P18's Read -/
def rd (X : Bs) : List Tk × Nat := rdA [] X
def rdR (X : Bs) : List Tr := (rd X).1.map Tk.raw
end Lz
theorem ext_toList (s : ByteArray) (p : Nat) : (s.extract p s.size).data.toList = s.data.toList.drop p := by
  rw [ByteArray.data_extract]
  simp [List.extract_eq_take_drop]
  rw [List.take_of_length_le]
  rw [List.length_drop, ← Lib.size_eq]
  omega

set_option maxHeartbeats 2000000 in
theorem read_of (s : ByteArray) (w : World) (hs : s.size ≤ 140737488351232) (L : Lz.Bs) (R : List Lz.Tk × Nat) (hL : s.data.toList = L) (hR : Lz.rdA [] L = R) :
    Calls Try.prog 41 #[.string s] w fun e w' => ∃ v, e = .returned (.tuple #[v, .int .i64 R.2]) ∧ w'.ownsRow w.heap.size 79 3 v (R.1.map Lz.Tk.raw).length (rowC (R.1.map Lz.Tk.raw)) ∧ Below w.heap.size w w' := by
  have hLl : L.length = s.size := by rw [← hL]; exact (Lib.size_eq s).symm
  have HLL : Hid (L.length = s.size) := hLl
  have HX : Hid (∀ p, p ≤ s.size → (s.extract p s.size).data.toList = L.drop p) := fun p _ => by rw [← hL]; exact ext_toList s p
  have HR : Hid (Lz.rdA [] L = R) := hR
  clear hL hR hLl
  obtain ⟨i0, hi, hz0, hz1, hz2⟩ := info_parts info_tok
  go_enter Try.func41, Try.ntmps41
  go_wp2_with fail
  go_loopw [4, 5] (fun v i wr => ∃ (p : Nat) (out : List Lz.Tk), p ≤ s.size ∧ out.length ≤ 4096 ∧ i = .int .i64 p ∧ Hid (Lz.rdA out (L.drop p) = R) ∧ wr.ownsRow w.heap.size 79 3 v (out.map Lz.Tk.raw).length (rowC (out.map Lz.Tk.raw)) ∧ Below w.heap.size w wr) (fun _ i _ => s.size - (intOf i).toNat)
  case atStart => exact ⟨0, [], by omega, by simp, rfl, HR, World.ownsRow_nil _ _ _ _, Below.refl _ _⟩
  case round =>
    obtain ⟨p, out, hp, ho, rfl, hrd, hown, hbel⟩ := hrel
    by_cases hlt : p < s.size
    · have hex := HX.out p hp
      have hdl : (L.drop p).length = s.size - p := by rw [List.length_drop, HLL.out]
      have hXs : (s.extract p s.size).size = s.size - p := by rw [Lib.size_eq, hex, hdl]
      have hne : L.drop p ≠ [] := fun e => by rw [e] at hdl; simp at hdl; omega
      have hcall := fun V => rt_any (s.extract p s.size) V (by omega) (by omega)
      obtain ⟨hst, hok⟩ := Lz.rdA_rt out (L.drop p) hne
      rw [hex] at hcall
      have HD : Hid (∀ n, (L.drop p).drop n = L.drop (p + n)) := fun n => List.drop_drop
      have HS : Hid (Lz.rdA out (L.drop p) = if (Lz.rt (L.drop p)).2.2 = 0 then (if out.length = 4096 then ([], 2) else Lz.rdA (out ++ [(Lz.rt (L.drop p)).1.tok]) (L.drop (p + (Lz.rt (L.drop p)).2.1))) else ([], (Lz.rt (L.drop p)).2.2)) := by
        rw [← HD.out]; exact hst
      rw [hrd.out] at HS
      have HOK : Hid ((Lz.rt (L.drop p)).2.2 = 0 → (Lz.rt (L.drop p)).1.tok.raw = (Lz.rt (L.drop p)).1 ∧ 1 ≤ (Lz.rt (L.drop p)).2.1 ∧ p + (Lz.rt (L.drop p)).2.1 ≤ s.size) := fun e => by
        obtain ⟨h1, h2, h3⟩ := hok e
        exact ⟨h1, h2, by omega⟩
      clear hex hst hok hne hdl hXs hrd
      generalize Lz.rt (L.drop p) = q at *
      obtain ⟨t, n, e⟩ := q
      dsimp only at HS HOK hcall
      generalize hse : s.extract p s.size = sx at *
      unfold tokV at hcall
      have hbs := hbel.size
      obtain ⟨a4, c4, rfl⟩ := own_form hown
      rw [List.length_map]
      go_wp2_with fail
      refine (hcall _).mono ?_
      rintro er w2 ⟨rfl, hb2⟩
      have hB2 := hbel.trans (hb2.mono hbs)
      have hown2 := own_below hown hb2
      rw [List.length_map] at hown2
      have hs2 := hB2.size
      clear hcall hb2 hbel hown hse
      by_cases he : e = 0
      · subst he
        rw [if_pos rfl] at HS
        obtain ⟨hraw, hn1, hn2⟩ := HOK.out rfl
        clear HOK
        by_cases ho2 : out.length = 4096
        · have HR2 : Hid (R = ([], 2)) := by have h := HS.out; rw [if_pos ho2] at h; exact h
          have hq : ((out.length : Int) == 4096) = true := by rw [ho2]; rfl
          clear HS ho2
          go_wp2_with fail
          go_ret2
          refine ⟨.slice none 0 0, ?_, ?_, hB2.alloc hs2 _⟩
          · rw [HR2.out]; rfl
          · rw [HR2.out]; exact World.ownsRow_nil _ _ _ _
        · have HR2 : Hid (R = Lz.rdA (out ++ [t.tok]) (L.drop (p + n))) := by have h := HS.out; rw [if_neg ho2] at h; exact h
          have hq : ((out.length : Int) == 4096) = false := by rw [beq_eq_false_iff_ne]; omega
          clear HS
          go_wp2_with (at_builtin; refine wpList_append_own _ rfl (.tmp 27) (.tmp 29) 47 rfl w.heap.size 79 i0 (.agg #[.int .u8 0, .int .i64 0, .int .i64 0]) 3 24 Try.underlying47 hi hz0 hz1 hz2 rfl (by decide) _ _ _ rfl ((hown2.alloc _).alloc _) ⟨w2.heap.size + 1, 0, none⟩ 1 1 (tokC t) rfl rfl ?c1 ?c2 ?c3 ?c4 ?c5 ?_)
          case c1 =>
            intro j u hj
            match j, hj with
            | 0, hj => simp [tokC] at hj; subst hj; simp [Addr.add]
            | 1, hj => simp [tokC] at hj; subst hj; simp [Addr.add]
            | 2, hj => simp [tokC] at hj; subst hj; simp [Addr.add]
          case c2 => intro u hu; simp [tokC] at hu; rcases hu with rfl | rfl | rfl <;> rfl
          case c3 => unfold maxLen; omega
          case c4 => omega
          case c5 => simp; omega
          intro v' w4 hown4 hgrow _
          have HB4 : Hid (Below w.heap.size w w4) := ((hB2.alloc hs2 _).alloc (by simp; omega) _).grown hgrow (by simp; omega) fun k hk => (hown2.lt k hk).1
          have HO4 : Hid (w4.ownsRow w.heap.size 79 3 v' ((out ++ [t.tok]).map Lz.Tk.raw).length (rowC ((out ++ [t.tok]).map Lz.Tk.raw))) := by
            rw [List.map_append, List.map_singleton, hraw]
            have h4 := hown4
            rw [← List.length_map (f := Lz.Tk.raw)] at h4
            exact own_tok h4
          clear hown4 hgrow hown2 hB2
          go_wp2_with fail
          go_roundw
          case rel => exact ⟨p + n, out ++ [t.tok], hn2, by simp; omega, by go_num, HR2.out.symm, HO4.out, HB4.out⟩
          case measure => simp only [intOf]; omega
      · have HR2 : Hid (R = ([], e)) := by have h := HS.out; rw [if_neg he] at h; exact h
        have hq : ((e : Int) != 0) = true := by rw [bne_iff_ne]; omega
        clear HS HOK
        go_wp2_with fail
        go_ret2
        refine ⟨.slice none 0 0, ?_, ?_, hB2.alloc hs2 _⟩
        · rw [HR2.out]; rfl
        · rw [HR2.out]; exact World.ownsRow_nil _ _ _ _
    · have HR2 : Hid (R = (out, 0)) := by
        have h := hrd.out
        rw [List.drop_eq_nil_of_le (by rw [HLL.out]; omega)] at h
        exact h.symm
      clear hrd
      go_wp2_with fail
      go_ret2
      refine ⟨u4, ?_, ?_, hbel⟩
      · rw [HR2.out]; rfl
      · rw [HR2.out]; exact hown
theorem read_any (s : ByteArray) (w : World) (hs : s.size ≤ 140737488351232) :
    Calls Try.prog 41 #[.string s] w fun e w' => ∃ v, e = .returned (.tuple #[v, .int .i64 (Lz.rd s.data.toList).2]) ∧ w'.ownsRow w.heap.size 79 3 v (Lz.rdR s.data.toList).length (rowC (Lz.rdR s.data.toList)) ∧ Below w.heap.size w w' :=
  read_of s w hs _ _ rfl rfl
end Go.Proofs.Ytgdkfaphbbdnbaa
