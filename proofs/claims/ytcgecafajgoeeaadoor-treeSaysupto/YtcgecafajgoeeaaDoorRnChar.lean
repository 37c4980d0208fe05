/-
  lumref: what char answers: the character at the front of a text.
-/
import Derived.Test.YtcgecafajgoeeaaDoorNnChr
import Derived.Test.YtcgecafajgoeeaaDoorProg
import Derived.Below
import Derived.WalkKit
import Derived.WalkSpells
import Derived.WalkLawsBesides
import Derived.Lib.Strings
import Derived.Laws.IdiomStrings
import Derived.Lib.IndexBytes
import Derived.Test.YtcgecafajgoeeaaDoorBytes
namespace Go.Proofs.YtcgecafajgoeeaaDoor
open Go.RowKit
set_option maxRecDepth 4000

namespace Nn
/-- the bytes that follow, one by one -/
def run : Nat → List Nat → Option Nat
  | c, [] => some c
  | c, b :: l => if b < 128 ∨ 191 < b then none else run (64 * c + b - 128) l
/-- how a character of n bytes ends -/
def done (low n : Nat) : Option Nat → Nat × Nat
  | none => (0, 0)
  | some c => fin low c n
theorem done_none (low n : Nat) : done low n none = (0, 0) := rfl
theorem done_bad {low n c : Nat} (h : c < low ∨ 1114111 < c ∨ (55296 ≤ c ∧ c < 57344)) : done low n (some c) = (0, 0) := by
  show fin low c n = _
  unfold fin; rw [if_pos h]
theorem done_good {low n c : Nat} (h : ¬ (c < low ∨ 1114111 < c ∨ (55296 ≤ c ∧ c < 57344))) : done low n (some c) = (c, n) := by
  show fin low c n = _
  unfold fin; rw [if_neg h]
theorem run_two (n b0 b1 b2 b3 : Nat) (hb : 194 ≤ b0 ∧ b0 < 224) (hn : ¬ n < 2) : chrR n b0 b1 b2 b3 = done 128 2 (run (b0 - 192) [b1]) := by
  unfold chrR
  rw [if_neg (by omega), if_pos hb, run]
  by_cases c : b1 < 128 ∨ 191 < b1
  · rw [if_pos (.inr c), if_pos c]; rfl
  · rw [if_neg (by omega), if_neg c]; rfl
theorem run_three (n b0 b1 b2 b3 : Nat) (hb : 224 ≤ b0 ∧ b0 < 240) (hn : ¬ n < 3) : chrR n b0 b1 b2 b3 = done 2048 3 (run (b0 - 224) [b1, b2]) := by
  unfold chrR
  rw [if_neg (by omega), if_neg (by omega), if_pos hb, run]
  by_cases c : b1 < 128 ∨ 191 < b1
  · rw [if_pos (.inr (.inl c)), if_pos c]; rfl
  · rw [if_neg c, run]
    by_cases d : b2 < 128 ∨ 191 < b2
    · rw [if_pos (.inr (.inr d)), if_pos d]; rfl
    · rw [if_neg (by omega), if_neg d]; rfl
theorem run_four (n b0 b1 b2 b3 : Nat) (hb : 240 ≤ b0 ∧ b0 < 245) (hn : ¬ n < 4) : chrR n b0 b1 b2 b3 = done 65536 4 (run (b0 - 240) [b1, b2, b3]) := by
  unfold chrR
  rw [if_neg (by omega), if_neg (by omega), if_neg (by omega), if_pos hb, run]
  by_cases c : b1 < 128 ∨ 191 < b1
  · rw [if_pos (.inr (.inl c)), if_pos c]; rfl
  · rw [if_neg c, run]
    by_cases d : b2 < 128 ∨ 191 < b2
    · rw [if_pos (.inr (.inr (.inl d))), if_pos d]; rfl
    · rw [if_neg d, run]
      by_cases f : b3 < 128 ∨ 191 < b3
      · rw [if_pos (.inr (.inr (.inr f))), if_pos f]; rfl
      · rw [if_neg (by omega), if_neg f]; rfl
theorem run_short (n b0 b1 b2 b3 : Nat) (h : (194 ≤ b0 ∧ b0 < 224 ∧ n < 2) ∨ (224 ≤ b0 ∧ b0 < 240 ∧ n < 3) ∨ (240 ≤ b0 ∧ b0 < 245 ∧ n < 4)) : chrR n b0 b1 b2 b3 = (0, 0) := by
  unfold chrR
  rcases h with ⟨h1, h2, h3⟩ | ⟨h1, h2, h3⟩ | ⟨h1, h2, h3⟩
  · rw [if_neg (by omega), if_pos ⟨h1, h2⟩, if_pos (.inl h3)]
  · rw [if_neg (by omega), if_neg (by omega), if_pos ⟨h1, h2⟩, if_pos (.inl h3)]
  · rw [if_neg (by omega), if_neg (by omega), if_neg (by omega), if_pos ⟨h1, h2⟩, if_pos (.inl h3)]
theorem run_no (n b0 b1 b2 b3 : Nat) (h1 : 128 ≤ b0) (h : b0 < 194 ∨ 245 ≤ b0) : chrR n b0 b1 b2 b3 = (0, 0) := by
  unfold chrR
  rw [if_neg (by omega), if_neg (by omega), if_neg (by omega), if_neg (by omega)]
theorem run_drop (c : Nat) (bs : List Nat) (j : Nat) (hj : j < bs.length) : run c (bs.drop j) = if bs.getD j 0 < 128 ∨ 191 < bs.getD j 0 then none else run (64 * c + bs.getD j 0 - 128) (bs.drop (j + 1)) := by
  rw [List.drop_eq_getElem_cons hj, run, List.getD_eq_getElem?_getD, List.getElem?_eq_getElem hj]
  rfl
end Nn

/-- '[]byte(s)': its cells -/
theorem conv_by (w : World) (s : ByteArray) : ∃ W1 cap, (convert 9 41 (.string s)).run Tryd.prog w = .ok (.slice (some ⟨w.heap.size, 0, none⟩) s.size cap) W1 ∧
    (∀ k (hk : k < s.size), W1.cell? ⟨w.heap.size, k, none⟩ = some (.int .u8 (s[k].toNat : Nat))) ∧ Below w.heap.size w W1 := by
  have hcv := run_bytes_of_string (P := Tryd.prog) w 9 41 5 s (by kernel_rfl) (by kernel_rfl) (by kernel_rfl)
  exact ⟨_, _, hcv, fun k hk => bytes_cell w s _ _ k hk, ((Below.refl _ w).alloc (Nat.le_refl _) _).drew⟩
/-- the bytes of a text from the second on -/
theorem ext_get (s : ByteArray) (n k : Nat) (hn : n ≤ s.size) (hk : k < (s.extract 1 n).size) : ((s.extract 1 n)[k].toNat) = (s.data.toList.getD (k + 1) 0).toNat := by
  rw [ByteArray.size_extract] at hk
  rw [ByteArray.getElem_extract, Nat.add_comm k 1, List.getD_eq_getElem?_getD, Lib.data_getElem? s (1 + k) (by omega)]
  rfl
theorem first_get (s : ByteArray) (h : 0 < s.size) : (s[0].toNat) = (s.data.toList.getD 0 0).toNat := by
  rw [List.getD_eq_getElem?_getD, List.getElem?_eq_getElem (by rw [← Lib.size_eq]; omega)]
  rfl

def ChOut (s : ByteArray) (w : World) (e : Ending) (w' : World) : Prop :=
  e = .returned (.tuple #[.int .i64 (Nn.chr s.data.toList).1, .int .i64 (Nn.chr s.data.toList).2]) ∧ Below w.heap.size w w'

set_option maxHeartbeats 2000000 in
set_option maxRecDepth 8000 in
theorem rchar_two (s : ByteArray) (w : World) (hs : s.size ≤ 140737488351232) (h0 : 0 < s.size) (b0 : Nat) (hb0 : s[0].toNat = b0) (hr : 194 ≤ b0 ∧ b0 < 224) (hn : 2 ≤ s.size) :
    Calls Tryd.prog 62 #[.string s] w (ChOut s w) := by
  have hne : s.data.toList ≠ [] := fun e => by rw [Lib.size_eq, e] at h0; simp at h0
  have e0 : s.toList.isEmpty = false := by
    rw [Lib.toList_data]
    cases hx : s.data.toList with
    | nil => exact absurd hx hne
    | cons a b => rfl
  have e0' : (s.toList == []) = false := by rw [beq_eq_false_iff_ne, Lib.toList_data]; exact hne
  obtain ⟨bs, hbs⟩ : ∃ bs, bs = [(s.data.toList.getD 1 0).toNat] := ⟨_, rfl⟩
  have hlen : bs.length = 1 := by rw [hbs]; rfl
  have HZ : Hid (Nn.chr s.data.toList = Nn.done 128 2 (Nn.run (b0 - 192) bs)) := by
    show _ = _
    rw [Nn.chr_R _ hne, hbs, ← first_get s h0, hb0]
    exact Nn.run_two _ _ _ _ _ hr (by rw [← Lib.size_eq]; omega)
  obtain ⟨t, ht⟩ : ∃ t, s.extract 1 2 = t := ⟨_, rfl⟩
  have htz : t.size = 1 := by rw [← ht, ByteArray.size_extract]; omega
  obtain ⟨W1, cap, hcv, hcell, hbel⟩ := conv_by w t
  have HCL : Hid (∀ k, k < 1 → W1.cell? ⟨w.heap.size, k, none⟩ = some (.int .u8 (bs.getD k 0 : Nat))) := fun k hk => by
    rw [hcell k (by omega)]
    have := ext_get s 2 k hn (by rw [ht]; omega)
    simp only [ht] at this
    rw [this, hbs]
    match k, hk with
    | 0, _ => rfl
  have HB : Hid (Below w.heap.size w W1) := hbel
  have HBS : Hid (∀ k, bs.getD k 0 < 256) := fun k => by
    rw [hbs]
    match k with
    | 0 => exact UInt8.toNat_lt _
    | _ + 1 => simp
  rw [htz] at hcv
  have hnz : ((2 : Int)) ≤ (s.size : Int) := by omega
  have h0z : (0 : Int) < (s.size : Int) := by omega
  obtain ⟨c0, hc0⟩ : ∃ c0, c0 = b0 - 192 := ⟨_, rfl⟩
  have hcz : (b0 : Int) - 192 = (c0 : Int) := by omega
  have hc31 : c0 ≤ 31 := by omega
  rw [← hc0] at HZ
  obtain ⟨Z, hZ⟩ : ∃ Z, Nn.run c0 bs = Z := ⟨_, rfl⟩
  have HR : Hid (Nn.run c0 (bs.drop 0) = Z) := hZ
  rw [hZ] at HZ
  have HL : Hid (bs.length = 1) := hlen
  clear hbs hlen hcell hbel hne hc0 hZ htz
  go_enter Tryd.func62, Tryd.ntmps62
  go_wp2_with fail
  go_loop [4, 53] (fun c i => ∃ j C : Nat, j ≤ 1 ∧ i = .int .i64 j ∧ c = .int .i64 C ∧ Hid (Nn.run C (bs.drop j) = Z) ∧ (j = 0 → C ≤ 31) ∧ (j = 1 → C ≤ 2047) ∧ (j = 2 → C ≤ 131071) ∧ C ≤ 8388607) (fun _ i => 1 - (intOf i).toNat)
  case atStart => exact ⟨0, c0, by omega, rfl, rfl, HR, by omega, by omega, by omega, by omega⟩
  case round =>
    clear HR
    obtain ⟨j, C, hj, rfl, rfl, HR, q0, q1, q2, q3⟩ := hrel
    by_cases hlt : j < 1
    · have cj := HCL.out j hlt
      have HD : Hid (Z = if bs.getD j 0 < 128 ∨ 191 < bs.getD j 0 then none else Nn.run (64 * C + bs.getD j 0 - 128) (bs.drop (j + 1))) := by
        show _ = _
        rw [← Nn.run_drop _ _ _ (by rw [HL.out]; exact hlt)]; exact HR.out.symm
      have hb256 := HBS.out j
      generalize bs.getD j 0 = b at *
      clear HR
      by_cases hbad : b < 128 ∨ 191 < b
      · have HN : Hid (Z = none) := by have := HD.out; rwa [if_pos hbad] at this
        clear HD
        by_cases h1 : b < 128
        · clear hbad
          go_wp2_with fail
          go_ret2
          exact ⟨by rw [HZ.out, HN.out, Nn.done_none]; rfl, HB.out⟩
        · have h2 : 191 < b := by omega
          clear hbad
          go_wp2_with fail
          go_ret2
          exact ⟨by rw [HZ.out, HN.out, Nn.done_none]; rfl, HB.out⟩
      · have HR2 : Hid (Nn.run (64 * C + b - 128) (bs.drop (j + 1)) = Z) := by have := HD.out; rw [if_neg hbad] at this; exact this.symm
        have h1 : ¬ b < 128 := by omega
        have h2 : ¬ 191 < b := by omega
        obtain ⟨D, hD⟩ : ∃ D, 64 * C + b - 128 = D := ⟨_, rfl⟩
        have hDz : 64 * (C : Int) + (b : Int) - 128 = (D : Int) := by omega
        have hD3 : D ≤ 8388607 := by omega
        have hd0 : j + 1 = 1 → D ≤ 2047 := by omega
        have hd1 : j + 1 = 2 → D ≤ 131071 := by omega
        rw [hD] at HR2
        clear HD hbad hD
        go_wp2_with fail
        go_round
        case rel => exact ⟨_, _, .int .i64 D, .int .u8 b, .int .i64 ((j : Int) + 1), ⟨j + 1, by omega, by go_num, D, rfl, HR2, by omega, hd0, hd1, hD3⟩, rfl, rfl, rfl, rfl, rfl⟩
        case measure => simp only [intOf]; omega
    · obtain rfl : j = 1 := by omega
      have HN : Hid (Z = some C) := by
        have := HR.out
        rw [List.drop_eq_nil_of_le (by rw [HL.out]; omega), Nn.run] at this
        exact this.symm
      clear HR HCL HBS q0 q1 q2
      obtain ⟨c, hc⟩ : ∃ c : Int, c = (C : Int) := ⟨_, rfl⟩
      have HCc : Hid (c = (C : Int)) := hc
      by_cases h1 : C < 128
      · have HE : Hid (Nn.chr s.data.toList = (0, 0)) := by
          show _ = _
          rw [HZ.out, HN.out]; exact Nn.done_bad (.inl h1)
        have i1 : c < 128 := by omega
        rw [← hc]
        clear h1 HZ HN hc q3
        go_wp2_with fail
        go_ret2
        exact ⟨by rw [HE.out]; rfl, HB.out⟩
      by_cases h2 : 1114111 < C
      · have HE : Hid (Nn.chr s.data.toList = (0, 0)) := by
          show _ = _
          rw [HZ.out, HN.out]; exact Nn.done_bad (.inr (.inl h2))
        have i1 : ¬ c < 128 := by omega
        have i2 : 1114111 < c := by omega
        rw [← hc]
        clear h1 h2 HZ HN hc q3
        go_wp2_with fail
        go_ret2
        exact ⟨by rw [HE.out]; rfl, HB.out⟩
      by_cases h3 : 55296 ≤ C ∧ C < 57344
      · have HE : Hid (Nn.chr s.data.toList = (0, 0)) := by
          show _ = _
          rw [HZ.out, HN.out]; exact Nn.done_bad (.inr (.inr h3))
        have i1 : ¬ c < 128 := by omega
        have i2 : ¬ 1114111 < c := by omega
        have i3 : 55296 ≤ c := by omega
        have i4 : c < 57344 := by omega
        rw [← hc]
        clear h1 h2 h3 HZ HN hc q3
        go_wp2_with fail
        go_ret2
        exact ⟨by rw [HE.out]; rfl, HB.out⟩
      have HE : Hid (Nn.chr s.data.toList = (C, 2)) := by
        show _ = _
        rw [HZ.out, HN.out]; exact Nn.done_good (by omega)
      have i1 : ¬ c < 128 := by omega
      have i2 : ¬ 1114111 < c := by omega
      by_cases h4 : 55296 ≤ C
      · have i3 : 55296 ≤ c := by omega
        have i4 : ¬ c < 57344 := by omega
        rw [← hc]
        clear h1 h2 h3 h4 HZ HN hc q3
        go_wp2_with fail
        go_ret2
        exact ⟨by rw [HE.out, HCc.out]; rfl, HB.out⟩
      · have i3 : ¬ 55296 ≤ c := by omega
        rw [← hc]
        clear h1 h2 h3 h4 HZ HN hc q3
        go_wp2_with fail
        go_ret2
        exact ⟨by rw [HE.out, HCc.out]; rfl, HB.out⟩

set_option maxHeartbeats 2000000 in
set_option maxRecDepth 8000 in
theorem rchar_three (s : ByteArray) (w : World) (hs : s.size ≤ 140737488351232) (h0 : 0 < s.size) (b0 : Nat) (hb0 : s[0].toNat = b0) (hr : 224 ≤ b0 ∧ b0 < 240) (hn : 3 ≤ s.size) :
    Calls Tryd.prog 62 #[.string s] w (ChOut s w) := by
  have hne : s.data.toList ≠ [] := fun e => by rw [Lib.size_eq, e] at h0; simp at h0
  have e0 : s.toList.isEmpty = false := by
    rw [Lib.toList_data]
    cases hx : s.data.toList with
    | nil => exact absurd hx hne
    | cons a b => rfl
  have e0' : (s.toList == []) = false := by rw [beq_eq_false_iff_ne, Lib.toList_data]; exact hne
  obtain ⟨bs, hbs⟩ : ∃ bs, bs = [(s.data.toList.getD 1 0).toNat, (s.data.toList.getD 2 0).toNat] := ⟨_, rfl⟩
  have hlen : bs.length = 2 := by rw [hbs]; rfl
  have HZ : Hid (Nn.chr s.data.toList = Nn.done 2048 3 (Nn.run (b0 - 224) bs)) := by
    show _ = _
    rw [Nn.chr_R _ hne, hbs, ← first_get s h0, hb0]
    exact Nn.run_three _ _ _ _ _ hr (by rw [← Lib.size_eq]; omega)
  obtain ⟨t, ht⟩ : ∃ t, s.extract 1 3 = t := ⟨_, rfl⟩
  have htz : t.size = 2 := by rw [← ht, ByteArray.size_extract]; omega
  obtain ⟨W1, cap, hcv, hcell, hbel⟩ := conv_by w t
  have HCL : Hid (∀ k, k < 2 → W1.cell? ⟨w.heap.size, k, none⟩ = some (.int .u8 (bs.getD k 0 : Nat))) := fun k hk => by
    rw [hcell k (by omega)]
    have := ext_get s 3 k hn (by rw [ht]; omega)
    simp only [ht] at this
    rw [this, hbs]
    match k, hk with
    | 0, _ => rfl
    | 1, _ => rfl
  have HB : Hid (Below w.heap.size w W1) := hbel
  have HBS : Hid (∀ k, bs.getD k 0 < 256) := fun k => by
    rw [hbs]
    match k with
    | 0 => exact UInt8.toNat_lt _
    | 1 => exact UInt8.toNat_lt _
    | _ + 2 => simp
  rw [htz] at hcv
  have hnz : ((3 : Int)) ≤ (s.size : Int) := by omega
  have h0z : (0 : Int) < (s.size : Int) := by omega
  obtain ⟨c0, hc0⟩ : ∃ c0, c0 = b0 - 224 := ⟨_, rfl⟩
  have hcz : (b0 : Int) - 224 = (c0 : Int) := by omega
  have hc31 : c0 ≤ 31 := by omega
  rw [← hc0] at HZ
  obtain ⟨Z, hZ⟩ : ∃ Z, Nn.run c0 bs = Z := ⟨_, rfl⟩
  have HR : Hid (Nn.run c0 (bs.drop 0) = Z) := hZ
  rw [hZ] at HZ
  have HL : Hid (bs.length = 2) := hlen
  clear hbs hlen hcell hbel hne hc0 hZ htz
  go_enter Tryd.func62, Tryd.ntmps62
  go_wp2_with fail
  go_loop [4, 53] (fun c i => ∃ j C : Nat, j ≤ 2 ∧ i = .int .i64 j ∧ c = .int .i64 C ∧ Hid (Nn.run C (bs.drop j) = Z) ∧ (j = 0 → C ≤ 31) ∧ (j = 1 → C ≤ 2047) ∧ (j = 2 → C ≤ 131071) ∧ C ≤ 8388607) (fun _ i => 2 - (intOf i).toNat)
  case atStart => exact ⟨0, c0, by omega, rfl, rfl, HR, by omega, by omega, by omega, by omega⟩
  case round =>
    clear HR
    obtain ⟨j, C, hj, rfl, rfl, HR, q0, q1, q2, q3⟩ := hrel
    by_cases hlt : j < 2
    · have cj := HCL.out j hlt
      have HD : Hid (Z = if bs.getD j 0 < 128 ∨ 191 < bs.getD j 0 then none else Nn.run (64 * C + bs.getD j 0 - 128) (bs.drop (j + 1))) := by
        show _ = _
        rw [← Nn.run_drop _ _ _ (by rw [HL.out]; exact hlt)]; exact HR.out.symm
      have hb256 := HBS.out j
      generalize bs.getD j 0 = b at *
      clear HR
      by_cases hbad : b < 128 ∨ 191 < b
      · have HN : Hid (Z = none) := by have := HD.out; rwa [if_pos hbad] at this
        clear HD
        by_cases h1 : b < 128
        · clear hbad
          go_wp2_with fail
          go_ret2
          exact ⟨by rw [HZ.out, HN.out, Nn.done_none]; rfl, HB.out⟩
        · have h2 : 191 < b := by omega
          clear hbad
          go_wp2_with fail
          go_ret2
          exact ⟨by rw [HZ.out, HN.out, Nn.done_none]; rfl, HB.out⟩
      · have HR2 : Hid (Nn.run (64 * C + b - 128) (bs.drop (j + 1)) = Z) := by have := HD.out; rw [if_neg hbad] at this; exact this.symm
        have h1 : ¬ b < 128 := by omega
        have h2 : ¬ 191 < b := by omega
        obtain ⟨D, hD⟩ : ∃ D, 64 * C + b - 128 = D := ⟨_, rfl⟩
        have hDz : 64 * (C : Int) + (b : Int) - 128 = (D : Int) := by omega
        have hD3 : D ≤ 8388607 := by omega
        have hd0 : j + 1 = 1 → D ≤ 2047 := by omega
        have hd1 : j + 1 = 2 → D ≤ 131071 := by omega
        rw [hD] at HR2
        clear HD hbad hD
        go_wp2_with fail
        go_round
        case rel => exact ⟨_, _, .int .i64 D, .int .u8 b, .int .i64 ((j : Int) + 1), ⟨j + 1, by omega, by go_num, D, rfl, HR2, by omega, hd0, hd1, hD3⟩, rfl, rfl, rfl, rfl, rfl⟩
        case measure => simp only [intOf]; omega
    · obtain rfl : j = 2 := by omega
      have HN : Hid (Z = some C) := by
        have := HR.out
        rw [List.drop_eq_nil_of_le (by rw [HL.out]; omega), Nn.run] at this
        exact this.symm
      clear HR HCL HBS q0 q1 q2
      obtain ⟨c, hc⟩ : ∃ c : Int, c = (C : Int) := ⟨_, rfl⟩
      have HCc : Hid (c = (C : Int)) := hc
      by_cases h1 : C < 2048
      · have HE : Hid (Nn.chr s.data.toList = (0, 0)) := by
          show _ = _
          rw [HZ.out, HN.out]; exact Nn.done_bad (.inl h1)
        have i1 : c < 2048 := by omega
        rw [← hc]
        clear h1 HZ HN hc q3
        go_wp2_with fail
        go_ret2
        exact ⟨by rw [HE.out]; rfl, HB.out⟩
      by_cases h2 : 1114111 < C
      · have HE : Hid (Nn.chr s.data.toList = (0, 0)) := by
          show _ = _
          rw [HZ.out, HN.out]; exact Nn.done_bad (.inr (.inl h2))
        have i1 : ¬ c < 2048 := by omega
        have i2 : 1114111 < c := by omega
        rw [← hc]
        clear h1 h2 HZ HN hc q3
        go_wp2_with fail
        go_ret2
        exact ⟨by rw [HE.out]; rfl, HB.out⟩
      by_cases h3 : 55296 ≤ C ∧ C < 57344
      · have HE : Hid (Nn.chr s.data.toList = (0, 0)) := by
          show _ = _
          rw [HZ.out, HN.out]; exact Nn.done_bad (.inr (.inr h3))
        have i1 : ¬ c < 2048 := by omega
        have i2 : ¬ 1114111 < c := by omega
        have i3 : 55296 ≤ c := by omega
        have i4 : c < 57344 := by omega
        rw [← hc]
        clear h1 h2 h3 HZ HN hc q3
        go_wp2_with fail
        go_ret2
        exact ⟨by rw [HE.out]; rfl, HB.out⟩
      have HE : Hid (Nn.chr s.data.toList = (C, 3)) := by
        show _ = _
        rw [HZ.out, HN.out]; exact Nn.done_good (by omega)
      have i1 : ¬ c < 2048 := by omega
      have i2 : ¬ 1114111 < c := by omega
      by_cases h4 : 55296 ≤ C
      · have i3 : 55296 ≤ c := by omega
        have i4 : ¬ c < 57344 := by omega
        rw [← hc]
        clear h1 h2 h3 h4 HZ HN hc q3
        go_wp2_with fail
        go_ret2
        exact ⟨by rw [HE.out, HCc.out]; rfl, HB.out⟩
      · have i3 : ¬ 55296 ≤ c := by omega
        rw [← hc]
        clear h1 h2 h3 h4 HZ HN hc q3
        go_wp2_with fail
        go_ret2
        exact ⟨by rw [HE.out, HCc.out]; rfl, HB.out⟩

set_option maxHeartbeats 2000000 in
set_option maxRecDepth 8000 in
theorem rchar_four (s : ByteArray) (w : World) (hs : s.size ≤ 140737488351232) (h0 : 0 < s.size) (b0 : Nat) (hb0 : s[0].toNat = b0) (hr : 240 ≤ b0 ∧ b0 < 245) (hn : 4 ≤ s.size) :
    Calls Tryd.prog 62 #[.string s] w (ChOut s w) := by
  have hne : s.data.toList ≠ [] := fun e => by rw [Lib.size_eq, e] at h0; simp at h0
  have e0 : s.toList.isEmpty = false := by
    rw [Lib.toList_data]
    cases hx : s.data.toList with
    | nil => exact absurd hx hne
    | cons a b => rfl
  have e0' : (s.toList == []) = false := by rw [beq_eq_false_iff_ne, Lib.toList_data]; exact hne
  obtain ⟨bs, hbs⟩ : ∃ bs, bs = [(s.data.toList.getD 1 0).toNat, (s.data.toList.getD 2 0).toNat, (s.data.toList.getD 3 0).toNat] := ⟨_, rfl⟩
  have hlen : bs.length = 3 := by rw [hbs]; rfl
  have HZ : Hid (Nn.chr s.data.toList = Nn.done 65536 4 (Nn.run (b0 - 240) bs)) := by
    show _ = _
    rw [Nn.chr_R _ hne, hbs, ← first_get s h0, hb0]
    exact Nn.run_four _ _ _ _ _ hr (by rw [← Lib.size_eq]; omega)
  obtain ⟨t, ht⟩ : ∃ t, s.extract 1 4 = t := ⟨_, rfl⟩
  have htz : t.size = 3 := by rw [← ht, ByteArray.size_extract]; omega
  obtain ⟨W1, cap, hcv, hcell, hbel⟩ := conv_by w t
  have HCL : Hid (∀ k, k < 3 → W1.cell? ⟨w.heap.size, k, none⟩ = some (.int .u8 (bs.getD k 0 : Nat))) := fun k hk => by
    rw [hcell k (by omega)]
    have := ext_get s 4 k hn (by rw [ht]; omega)
    simp only [ht] at this
    rw [this, hbs]
    match k, hk with
    | 0, _ => rfl
    | 1, _ => rfl
    | 2, _ => rfl
  have HB : Hid (Below w.heap.size w W1) := hbel
  have HBS : Hid (∀ k, bs.getD k 0 < 256) := fun k => by
    rw [hbs]
    match k with
    | 0 => exact UInt8.toNat_lt _
    | 1 => exact UInt8.toNat_lt _
    | 2 => exact UInt8.toNat_lt _
    | _ + 3 => simp
  rw [htz] at hcv
  have hnz : ((4 : Int)) ≤ (s.size : Int) := by omega
  have h0z : (0 : Int) < (s.size : Int) := by omega
  obtain ⟨c0, hc0⟩ : ∃ c0, c0 = b0 - 240 := ⟨_, rfl⟩
  have hcz : (b0 : Int) - 240 = (c0 : Int) := by omega
  have hc31 : c0 ≤ 31 := by omega
  rw [← hc0] at HZ
  obtain ⟨Z, hZ⟩ : ∃ Z, Nn.run c0 bs = Z := ⟨_, rfl⟩
  have HR : Hid (Nn.run c0 (bs.drop 0) = Z) := hZ
  rw [hZ] at HZ
  have HL : Hid (bs.length = 3) := hlen
  clear hbs hlen hcell hbel hne hc0 hZ htz
  go_enter Tryd.func62, Tryd.ntmps62
  go_wp2_with fail
  go_loop [4, 53] (fun c i => ∃ j C : Nat, j ≤ 3 ∧ i = .int .i64 j ∧ c = .int .i64 C ∧ Hid (Nn.run C (bs.drop j) = Z) ∧ (j = 0 → C ≤ 31) ∧ (j = 1 → C ≤ 2047) ∧ (j = 2 → C ≤ 131071) ∧ C ≤ 8388607) (fun _ i => 3 - (intOf i).toNat)
  case atStart => exact ⟨0, c0, by omega, rfl, rfl, HR, by omega, by omega, by omega, by omega⟩
  case round =>
    clear HR
    obtain ⟨j, C, hj, rfl, rfl, HR, q0, q1, q2, q3⟩ := hrel
    by_cases hlt : j < 3
    · have cj := HCL.out j hlt
      have HD : Hid (Z = if bs.getD j 0 < 128 ∨ 191 < bs.getD j 0 then none else Nn.run (64 * C + bs.getD j 0 - 128) (bs.drop (j + 1))) := by
        show _ = _
        rw [← Nn.run_drop _ _ _ (by rw [HL.out]; exact hlt)]; exact HR.out.symm
      have hb256 := HBS.out j
      generalize bs.getD j 0 = b at *
      clear HR
      by_cases hbad : b < 128 ∨ 191 < b
      · have HN : Hid (Z = none) := by have := HD.out; rwa [if_pos hbad] at this
        clear HD
        by_cases h1 : b < 128
        · clear hbad
          go_wp2_with fail
          go_ret2
          exact ⟨by rw [HZ.out, HN.out, Nn.done_none]; rfl, HB.out⟩
        · have h2 : 191 < b := by omega
          clear hbad
          go_wp2_with fail
          go_ret2
          exact ⟨by rw [HZ.out, HN.out, Nn.done_none]; rfl, HB.out⟩
      · have HR2 : Hid (Nn.run (64 * C + b - 128) (bs.drop (j + 1)) = Z) := by have := HD.out; rw [if_neg hbad] at this; exact this.symm
        have h1 : ¬ b < 128 := by omega
        have h2 : ¬ 191 < b := by omega
        obtain ⟨D, hD⟩ : ∃ D, 64 * C + b - 128 = D := ⟨_, rfl⟩
        have hDz : 64 * (C : Int) + (b : Int) - 128 = (D : Int) := by omega
        have hD3 : D ≤ 8388607 := by omega
        have hd0 : j + 1 = 1 → D ≤ 2047 := by omega
        have hd1 : j + 1 = 2 → D ≤ 131071 := by omega
        rw [hD] at HR2
        clear HD hbad hD
        go_wp2_with fail
        go_round
        case rel => exact ⟨_, _, .int .i64 D, .int .u8 b, .int .i64 ((j : Int) + 1), ⟨j + 1, by omega, by go_num, D, rfl, HR2, by omega, hd0, hd1, hD3⟩, rfl, rfl, rfl, rfl, rfl⟩
        case measure => simp only [intOf]; omega
    · obtain rfl : j = 3 := by omega
      have HN : Hid (Z = some C) := by
        have := HR.out
        rw [List.drop_eq_nil_of_le (by rw [HL.out]; omega), Nn.run] at this
        exact this.symm
      clear HR HCL HBS q0 q1 q2
      obtain ⟨c, hc⟩ : ∃ c : Int, c = (C : Int) := ⟨_, rfl⟩
      have HCc : Hid (c = (C : Int)) := hc
      by_cases h1 : C < 65536
      · have HE : Hid (Nn.chr s.data.toList = (0, 0)) := by
          show _ = _
          rw [HZ.out, HN.out]; exact Nn.done_bad (.inl h1)
        have i1 : c < 65536 := by omega
        rw [← hc]
        clear h1 HZ HN hc q3
        go_wp2_with fail
        go_ret2
        exact ⟨by rw [HE.out]; rfl, HB.out⟩
      by_cases h2 : 1114111 < C
      · have HE : Hid (Nn.chr s.data.toList = (0, 0)) := by
          show _ = _
          rw [HZ.out, HN.out]; exact Nn.done_bad (.inr (.inl h2))
        have i1 : ¬ c < 65536 := by omega
        have i2 : 1114111 < c := by omega
        rw [← hc]
        clear h1 h2 HZ HN hc q3
        go_wp2_with fail
        go_ret2
        exact ⟨by rw [HE.out]; rfl, HB.out⟩
      by_cases h3 : 55296 ≤ C ∧ C < 57344
      · have HE : Hid (Nn.chr s.data.toList = (0, 0)) := by
          show _ = _
          rw [HZ.out, HN.out]; exact Nn.done_bad (.inr (.inr h3))
        have i1 : ¬ c < 65536 := by omega
        have i2 : ¬ 1114111 < c := by omega
        have i3 : 55296 ≤ c := by omega
        have i4 : c < 57344 := by omega
        rw [← hc]
        clear h1 h2 h3 HZ HN hc q3
        exact absurd i4 (by omega)
      have HE : Hid (Nn.chr s.data.toList = (C, 4)) := by
        show _ = _
        rw [HZ.out, HN.out]; exact Nn.done_good (by omega)
      have i1 : ¬ c < 65536 := by omega
      have i2 : ¬ 1114111 < c := by omega
      by_cases h4 : 55296 ≤ C
      · have i3 : 55296 ≤ c := by omega
        have i4 : ¬ c < 57344 := by omega
        rw [← hc]
        clear h1 h2 h3 h4 HZ HN hc q3
        go_wp2_with fail
        go_ret2
        exact ⟨by rw [HE.out, HCc.out]; rfl, HB.out⟩
      · have i3 : ¬ 55296 ≤ c := by omega
        rw [← hc]
        clear h1 h2 h3 h4 HZ HN hc q3
        exact absurd i1 (by omega)

set_option maxHeartbeats 1000000 in
theorem rchar_nil (w : World) : Calls Tryd.prog 62 #[.string ⟨#[]⟩] w fun e w' => e = .returned (.tuple #[.int .i64 0, .int .i64 0]) ∧ w' = w := by
  go_enter Tryd.func62, Tryd.ntmps62
  go_wp2_with fail
  go_ret2
  exact ⟨rfl, rfl⟩

set_option maxHeartbeats 1000000 in
theorem rchar_few (s : ByteArray) (w : World) (h0 : 0 < s.size) (b0 : Nat) (hb0 : s[0].toNat = b0) (hlt : b0 < 128) :
    Calls Tryd.prog 62 #[.string s] w fun e w' => e = .returned (.tuple #[.int .i64 b0, .int .i64 1]) ∧ w' = w := by
  have hne : s.data.toList ≠ [] := fun e => by rw [Lib.size_eq, e] at h0; simp at h0
  have e0 : s.toList.isEmpty = false := by
    rw [Lib.toList_data]
    cases hx : s.data.toList with
    | nil => exact absurd hx hne
    | cons a b => rfl
  have e0' : (s.toList == []) = false := by rw [beq_eq_false_iff_ne, Lib.toList_data]; exact hne
  have h0z : (0 : Int) < (s.size : Int) := by omega
  clear hne
  go_enter Tryd.func62, Tryd.ntmps62
  go_wp2_with fail
  go_ret2
  exact ⟨rfl, rfl⟩

set_option maxHeartbeats 1000000 in
theorem rchar_none (s : ByteArray) (w : World) (h0 : 0 < s.size) (b0 : Nat) (hb0 : s[0].toNat = b0) (hlt : ¬ b0 < 128) (h256 : b0 < 256) (h : (194 ≤ b0 ∧ b0 < 224 ∧ s.size < 2) ∨ (224 ≤ b0 ∧ b0 < 240 ∧ s.size < 3) ∨ (240 ≤ b0 ∧ b0 < 245 ∧ s.size < 4) ∨ b0 < 194 ∨ 245 ≤ b0) :
    Calls Tryd.prog 62 #[.string s] w fun e w' => e = .returned (.tuple #[.int .i64 0, .int .i64 0]) ∧ w' = w := by
  have hne : s.data.toList ≠ [] := fun e => by rw [Lib.size_eq, e] at h0; simp at h0
  have e0 : s.toList.isEmpty = false := by
    rw [Lib.toList_data]
    cases hx : s.data.toList with
    | nil => exact absurd hx hne
    | cons a b => rfl
  have e0' : (s.toList == []) = false := by rw [beq_eq_false_iff_ne, Lib.toList_data]; exact hne
  have h0z : (0 : Int) < (s.size : Int) := by omega
  clear hne
  rcases h with ⟨h1, h2, h3⟩ | ⟨h1, h2, h3⟩ | ⟨h1, h2, h3⟩ | h1 | h1
  all_goals
    go_enter Tryd.func62, Tryd.ntmps62
    go_wp2_with fail
    go_ret2
    exact ⟨rfl, rfl⟩

theorem rchar_any (s : ByteArray) (w : World) (hs : s.size ≤ 140737488351232) : Calls Tryd.prog 62 #[.string s] w (ChOut s w) := by
  by_cases h0 : 0 < s.size
  · have hne : s.data.toList ≠ [] := fun e => by rw [Lib.size_eq, e] at h0; simp at h0
    obtain ⟨b0, hb0⟩ : ∃ b0, s[0].toNat = b0 := ⟨_, rfl⟩
    have h256 : b0 < 256 := by rw [← hb0]; exact UInt8.toNat_lt _
    have hR := Nn.chr_R _ hne
    rw [← first_get s h0, hb0] at hR
    by_cases h1 : b0 < 128
    · refine (rchar_few s w h0 b0 hb0 h1).mono ?_
      rintro e w' ⟨rfl, rfl⟩
      refine ⟨?_, Below.refl _ _⟩
      rw [hR, Nn.chrR, if_pos h1]
      rfl
    by_cases hbad : (194 ≤ b0 ∧ b0 < 224 ∧ s.size < 2) ∨ (224 ≤ b0 ∧ b0 < 240 ∧ s.size < 3) ∨ (240 ≤ b0 ∧ b0 < 245 ∧ s.size < 4) ∨ b0 < 194 ∨ 245 ≤ b0
    · refine (rchar_none s w h0 b0 hb0 h1 h256 hbad).mono ?_
      rintro e w' ⟨rfl, rfl⟩
      refine ⟨?_, Below.refl _ _⟩
      have : Nn.chr s.data.toList = (0, 0) := by
        rw [hR]
        rw [Lib.size_eq] at hbad
        rcases hbad with h | h | h | h
        · exact Nn.run_short _ _ _ _ _ (.inl h)
        · exact Nn.run_short _ _ _ _ _ (.inr (.inl h))
        · exact Nn.run_short _ _ _ _ _ (.inr (.inr h))
        · exact Nn.run_no _ _ _ _ _ (by omega) h
      rw [this]
      rfl
    by_cases c2 : 194 ≤ b0 ∧ b0 < 224
    · exact rchar_two s w hs h0 b0 hb0 c2 (by omega)
    by_cases c3 : 224 ≤ b0 ∧ b0 < 240
    · exact rchar_three s w hs h0 b0 hb0 c3 (by omega)
    · exact rchar_four s w hs h0 b0 hb0 (by omega) (by omega)
  · have hz : s.data.toList = [] := List.length_eq_zero_iff.1 (by rw [← Lib.size_eq]; omega)
    have hs0 : s = ⟨#[]⟩ := by
      apply ByteArray.ext
      apply Array.toList_inj.1
      simpa using hz
    subst hs0
    refine (rchar_nil w).mono ?_
    rintro e w' ⟨rfl, rfl⟩
    exact ⟨rfl, Below.refl _ _⟩
end Go.Proofs.YtcgecafajgoeeaaDoor
