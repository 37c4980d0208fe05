/-
  What ReadTokens of package lumref answers.
-/
import Derived.Test.YtkkbdgpmgkipbaaLzRead
namespace Go.Proofs.Ytkkbdgpmgkipbaa
open Go.RowKit

theorem drop_byte (s : ByteArray) (k : Nat) (h : k < s.size) : s.data.toList.drop k = s[k] :: s.data.toList.drop (k + 1) := by
  rw [List.drop_eq_getElem_cons (by simpa using h)]; rfl
theorem rt_at_short0 (s : ByteArray) (p : Nat) (h : p < s.size) (h2 : s.size < p + 2) : Lz.rt (s.data.toList.drop p) = (⟨0, 0, 0⟩, 0, 3) := by
  rw [drop_byte s p h, List.drop_eq_nil_of_le (by rw [← Lib.size_eq]; omega)]; rfl
theorem rt_at_letter (s : ByteArray) (p : Nat) (h2 : p + 2 ≤ s.size) (h0 : s[p] = 0) : Lz.rt (s.data.toList.drop p) = (⟨s[p + 1], 0, 0⟩, 2, 0) := by
  rw [drop_byte s p (by omega), drop_byte s (p + 1) (by omega), h0]
  cases s.data.toList.drop (p + 1 + 1) with
  | nil => rfl
  | cons y r => rfl
theorem rt_at_short (s : ByteArray) (p : Nat) (h : p < s.size) (h3 : s.size < p + 3) (h0 : ¬ s[p] = 0) : Lz.rt (s.data.toList.drop p) = (⟨0, 0, 0⟩, 0, 3) := by
  by_cases h2 : s.size < p + 2
  · exact rt_at_short0 s p h h2
  · rw [drop_byte s p h, drop_byte s (p + 1) (by omega), List.drop_eq_nil_of_le (by rw [← Lib.size_eq]; omega)]
    exact if_neg h0
theorem rt_at_copy (s : ByteArray) (p d : Nat) (h3 : p + 3 ≤ s.size) (h0 : ¬ s[p] = 0) (hd : s[p + 1].toNat + 256 * s[p + 2].toNat = d) :
    Lz.rt (s.data.toList.drop p) = if 1 ≤ d ∧ d ≤ 1024 then (⟨0, s[p].toNat, (d : Nat)⟩, 3, 0) else (⟨0, 0, 0⟩, 0, 4) := by
  rw [drop_byte s p (by omega), drop_byte s (p + 1) (by omega), drop_byte s (p + 2) (by omega)]
  subst hd
  exact if_neg h0

set_option maxHeartbeats 2000000 in
theorem rread_of (s : ByteArray) (w : World) (hs : s.size ≤ 140737488351232) (L : Lz.Bs) (R : List Lz.Tk × Nat) (hL : s.data.toList = L) (hR : Lz.rdA [] L = R) :
    Calls Try.prog 14 #[.string s] w fun e w' => ∃ v, e = .returned (.tuple #[v, .int .i64 R.2]) ∧ w'.ownsRow w.heap.size 33 3 v (R.1.map Lz.Tk.raw).length (rowC (R.1.map Lz.Tk.raw)) ∧ Below w.heap.size w w' := by
  have hLl : L.length = s.size := by rw [← hL]; exact (Lib.size_eq s).symm
  have HLL : Hid (L.length = s.size) := hLl
  have HE : Hid (s.data.toList = L) := hL
  have HR : Hid (Lz.rdA [] L = R) := hR
  clear hL hR hLl
  obtain ⟨i0, hi, hz0, hz1, hz2⟩ := info_parts info_tok
  go_enter Try.func14, Try.ntmps14
  go_wp2_with fail
  go_loopw [4, 5] (fun v i wr => ∃ (p : Nat) (out : List Lz.Tk), p ≤ s.size ∧ out.length ≤ 4096 ∧ i = .int .i64 p ∧ Hid (Lz.rdA out (L.drop p) = R) ∧ wr.ownsRow w.heap.size 33 3 v (out.map Lz.Tk.raw).length (rowC (out.map Lz.Tk.raw)) ∧ Below w.heap.size w wr) (fun _ i _ => s.size - (intOf i).toNat)
  case atStart => exact ⟨0, [], by omega, by simp, rfl, HR, World.ownsRow_nil _ _ _ _, Below.refl _ _⟩
  case round =>
    obtain ⟨p, out, hp, ho, rfl, hrd, hown, hbel⟩ := hrel
    by_cases hlt : p < s.size
    · have hdl : (L.drop p).length = s.size - p := by rw [List.length_drop, HLL.out]
      have hne : L.drop p ≠ [] := fun e => by rw [e] at hdl; simp at hdl; omega
      obtain ⟨hst, hok⟩ := Lz.rdA_rt out (L.drop p) hne
      have HD : Hid (∀ n, (L.drop p).drop n = L.drop (p + n)) := fun n => List.drop_drop
      have HS : Hid (Lz.rdA out (L.drop p) = if (Lz.rt (L.drop p)).2.2 = 0 then (if out.length = 4096 then ([], 2) else Lz.rdA (out ++ [(Lz.rt (L.drop p)).1.tok]) (L.drop (p + (Lz.rt (L.drop p)).2.1))) else ([], (Lz.rt (L.drop p)).2.2)) := by
        rw [← HD.out]; exact hst
      rw [hrd.out] at HS
      have HOK : Hid ((Lz.rt (L.drop p)).2.2 = 0 → (Lz.rt (L.drop p)).1.tok.raw = (Lz.rt (L.drop p)).1 ∧ 1 ≤ (Lz.rt (L.drop p)).2.1 ∧ p + (Lz.rt (L.drop p)).2.1 ≤ s.size) := fun e => by
        obtain ⟨h1, h2, h3⟩ := hok e
        exact ⟨h1, h2, by omega⟩
      obtain ⟨q, hq⟩ : ∃ q, Lz.rt (L.drop p) = q := ⟨_, rfl⟩
      have HQ : Hid (Lz.rt (s.data.toList.drop p) = q) := by rw [HE.out]; exact hq
      rw [hq] at HS HOK
      clear hst hok hne hdl hrd hq
      obtain ⟨t, n, e⟩ := q
      dsimp only at HS HOK
      have hbs := hbel.size
      obtain ⟨a4, c4, rfl⟩ := own_slice hown
      rw [List.length_map] at hown ⊢
      have XB : Hid (Box (wr.alloc (.cells #[.int .u8 0, .int .i64 0, .int .i64 0] 33)) wr.heap.size ⟨0, 0, 0⟩) := Box.new wr ⟨0, 0, 0⟩
      have b0 := s[p].toNat_lt
      go_upto_if 14 with fail
      go_cut [5] from 7 to 66 (fun i wx => e = 0 ∧ i = .int .i64 ((p : Int) + (n : Int)) ∧ Hid (Box wx wr.heap.size t) ∧ Below wr.heap.size wr wx)
      case first =>
        by_cases h0 : s[p] = 0
        · have q0 : ((s[p].toNat : Int) == 0) = true := by rw [h0]; rfl
          by_cases h2 : p + 2 ≤ s.size
          · have h := HQ.out.symm.trans (rt_at_letter s p h2 h0)
            simp only [Prod.mk.injEq] at h
            obtain ⟨rfl, rfl, rfl⟩ := h
            have i1 : (p : Int) + 1 < (s.size : Int) := by omega
            have q1 : decide ((s.size : Int) < (p : Int) + 2) = false := decide_eq_false (by omega)
            clear h0
            go_wp2_with fail
            go_meet
            exact ⟨trivial, rfl, Box.new wr ⟨s[p + 1], 0, 0⟩, (Below.refl _ wr).alloc (Nat.le_refl _) _⟩
          · have h := HQ.out.symm.trans (rt_at_short0 s p hlt (by omega))
            simp only [Prod.mk.injEq] at h
            obtain ⟨rfl, rfl, rfl⟩ := h
            have HR2 : Hid (R = ([], 3)) := HS.out
            have q1 : decide ((s.size : Int) < (p : Int) + 2) = true := decide_eq_true (by omega)
            clear h0
            go_wp2_with fail
            go_ret2
            refine ⟨.slice none 0 0, ?_, ?_, hbel.alloc hbs _⟩
            · rw [HR2.out]; rfl
            · rw [HR2.out]; exact World.ownsRow_nil _ _ _ _
        · have q0 : ((s[p].toNat : Int) == 0) = false := by rw [beq_eq_false_iff_ne]; intro e; exact h0 ((lit_nat _).2 e)
          by_cases h3 : p + 3 ≤ s.size
          · obtain ⟨P1, hP1⟩ : ∃ P1, P1 = p + 1 := ⟨_, rfl⟩
            obtain ⟨P2, hP2⟩ : ∃ P2, P2 = p + 2 := ⟨_, rfl⟩
            have l1 : P1 < s.size := by omega
            have l2 : P2 < s.size := by omega
            obtain ⟨d, hd⟩ : ∃ d, s[P1].toNat + 256 * s[P2].toNat = d := ⟨_, rfl⟩
            have h := HQ.out.symm.trans (rt_at_copy s p d h3 h0 (by subst hP1 hP2; exact hd))
            have i1 : (p : Int) + 1 = (P1 : Int) := by omega
            have i2 : (p : Int) + 2 = (P2 : Int) := by omega
            have b1 := s[P1].toNat_lt
            have b2 := s[P2].toNat_lt
            have hdI : (s[P1].toNat : Int) + 256 * (s[P2].toNat : Int) = (d : Int) := by omega
            have q1 : decide ((s.size : Int) < (p : Int) + 3) = false := decide_eq_false (by omega)
            by_cases hok : 1 ≤ d ∧ d ≤ 1024
            · rw [if_pos hok] at h
              simp only [Prod.mk.injEq] at h
              obtain ⟨rfl, rfl, rfl⟩ := h
              have q2 : ((d : Int) == 0) = false := by rw [beq_eq_false_iff_ne]; omega
              have q3 : decide (1024 < (d : Int)) = false := decide_eq_false (by omega)
              clear hok hd hP1 hP2
              go_wp2_with fail
              go_region
              all_goals go_wp2_with fail
              all_goals go_meet
              all_goals exact ⟨trivial, rfl, (Box.new wr ⟨0, s[p].toNat, d⟩).below (Below.refl (wr.heap.size + 1) _).drew (by omega), ((Below.refl _ wr).alloc (Nat.le_refl _) _).drew⟩
            · rw [if_neg hok] at h
              simp only [Prod.mk.injEq] at h
              obtain ⟨rfl, rfl, rfl⟩ := h
              have HR2 : Hid (R = ([], 4)) := HS.out
              by_cases hd0 : d = 0
              · have q2 : ((d : Int) == 0) = true := by rw [hd0]; rfl
                clear hok hd hP1 hP2 hd0
                go_wp2_with fail
                go_region
                all_goals go_wp2_with fail
                all_goals go_ret2
                all_goals refine ⟨.slice none 0 0, ?_, ?_, (hbel.alloc hbs _).drew⟩
                all_goals rw [HR2.out]
                all_goals first | rfl | exact World.ownsRow_nil _ _ _ _
              · have q2 : ((d : Int) == 0) = false := by rw [beq_eq_false_iff_ne]; omega
                have q3 : decide (1024 < (d : Int)) = true := decide_eq_true (by omega)
                clear hok hd hP1 hP2
                go_wp2_with fail
                go_region
                all_goals go_wp2_with fail
                all_goals go_ret2
                all_goals refine ⟨.slice none 0 0, ?_, ?_, (hbel.alloc hbs _).drew⟩
                all_goals rw [HR2.out]
                all_goals first | rfl | exact World.ownsRow_nil _ _ _ _
          · have h := HQ.out.symm.trans (rt_at_short s p hlt (by omega) h0)
            simp only [Prod.mk.injEq] at h
            obtain ⟨rfl, rfl, rfl⟩ := h
            have HR2 : Hid (R = ([], 3)) := HS.out
            have q1 : decide ((s.size : Int) < (p : Int) + 3) = true := decide_eq_true (by omega)
            go_wp2_with fail
            go_ret2
            refine ⟨.slice none 0 0, ?_, ?_, hbel.alloc hbs _⟩
            · rw [HR2.out]; rfl
            · rw [HR2.out]; exact World.ownsRow_nil _ _ _ _
      case rest =>
        obtain ⟨rfl, rfl, hbox, hb2⟩ := hcut
        rw [if_pos rfl] at HS
        obtain ⟨hraw, hn1, hn2⟩ := HOK.out rfl
        have hB2 := hbel.trans (hb2.mono hbs)
        have hown2 := own_below hown hb2
        have hs2 := hB2.size
        have hlx := hbox.out.lt
        have c0 := hbox.out.c0
        have c1 := hbox.out.c1
        have c2 := hbox.out.c2
        clear HOK hb2 hbel hown hbox XB HQ
        by_cases ho2 : out.length = 4096
        · have HR2 : Hid (R = ([], 2)) := by have h := HS.out; rw [if_pos ho2] at h; exact h
          have hq : ((out.length : Int) == 4096) = true := by rw [ho2]; rfl
          clear HS ho2
          go_wp2_with fail
          go_ret2
          refine ⟨.slice none 0 0, ?_, ?_, hB2⟩
          · rw [HR2.out]; rfl
          · rw [HR2.out]; exact World.ownsRow_nil _ _ _ _
        · have HR2 : Hid (R = Lz.rdA (out ++ [t.tok]) (L.drop (p + n))) := by have h := HS.out; rw [if_neg ho2] at h; exact h
          have hq : ((out.length : Int) == 4096) = false := by rw [beq_eq_false_iff_ne]; omega
          clear HS
          go_wp2_with (at_builtin; refine wpList_append_own _ rfl (.tmp 63) (.tmp 65) 22 rfl w.heap.size 33 i0 (.agg #[.int .u8 0, .int .i64 0, .int .i64 0]) 3 24 Try.underlying22 hi hz0 hz1 hz2 rfl (by decide) _ _ _ rfl (hown2.alloc _) ⟨wc.heap.size, 0, none⟩ 1 1 (tokC t) rfl rfl ?c1 ?c2 ?c3 ?c4 ?c5 ?_)
          case c1 =>
            intro j u hj
            match j, hj with
            | 0, hj => simp [tokC] at hj; subst hj; simp [Addr.add]
            | 1, hj => simp [tokC] at hj; subst hj; simp [Addr.add]
            | 2, hj => simp [tokC] at hj; subst hj; simp [Addr.add]
          case c2 => intro u hu; simp [tokC] at hu; rcases hu with rfl | rfl | rfl <;> rfl
          case c3 => unfold maxLen; omega
          case c4 => omega
          case c5 => simp; omega
          intro v' w4 hown4 hgrow _
          have HB4 : Hid (Below w.heap.size w w4) := (hB2.alloc hs2 _).grown hgrow (by simp; omega) fun k hk => (hown2.lt k hk).1
          have HO4 : Hid (w4.ownsRow w.heap.size 33 3 v' ((out ++ [t.tok]).map Lz.Tk.raw).length (rowC ((out ++ [t.tok]).map Lz.Tk.raw))) := by
            rw [List.map_append, List.map_singleton, hraw]
            have h4 := hown4
            rw [← List.length_map (f := Lz.Tk.raw)] at h4
            exact own_tok h4
          clear hown4 hgrow hown2 hB2 c0 c1 c2
          go_wp2_with fail
          go_roundw
          case rel => exact ⟨p + n, out ++ [t.tok], hn2, by simp; omega, by go_num, HR2.out.symm, HO4.out, HB4.out⟩
          case measure => simp only [intOf]; omega
    · have HR2 : Hid (R = (out, 0)) := by
        have h := hrd.out
        rw [List.drop_eq_nil_of_le (by rw [HLL.out]; omega)] at h
        exact h.symm
      clear hrd
      go_wp2_with fail
      go_ret2
      refine ⟨u4, ?_, ?_, hbel⟩
      · rw [HR2.out]; rfl
      · rw [HR2.out]; exact hown
theorem rread_any (s : ByteArray) (w : World) (hs : s.size ≤ 140737488351232) :
    Calls Try.prog 14 #[.string s] w fun e w' => ∃ v, e = .returned (.tuple #[v, .int .i64 (Lz.rd s.data.toList).2]) ∧ w'.ownsRow w.heap.size 33 3 v (Lz.rdR s.data.toList).length (rowC (Lz.rdR s.data.toList)) ∧ Below w.heap.size w w' :=
  rread_of s w hs _ _ rfl rfl
end Go.Proofs.Ytkkbdgpmgkipbaa
