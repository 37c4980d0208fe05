/-
  What GetInt of the document's answer (package lumref) answers, at every string.
-/
import Derived.Test.YtcgecafajgoeeaaDoorRefGetInt
namespace Go.Proofs.YtcgecafajgoeeaaDoor
open Go.RowKit
set_option maxRecDepth 4000

set_option maxRecDepth 100000 in
set_option maxHeartbeats 1000000 in
theorem rgetI_out (s : ByteArray) (w : World) (hs : s.size ≤ 9223372036854775807) (hp : 0 < s.size) (c : UInt8) (hc : s[0] = c) (hcc : c.toNat < 119 ∨ 136 < c.toNat) :
    Calls Tryd.prog 45 #[.string s] w fun e w' => e = .returned (.tuple #[.int .i64 0, .int .i64 0, .int .i64 4]) ∧ Below w.heap.size w w' := by
  have hz : ((s.size : Int) == 0) = false := beq_eq_false_iff_ne.2 (by omega)
  have hb := c.toNat_lt
  rcases hcc with h | h
  · go_enter Tryd.func45, Tryd.ntmps45
    go_wp2_with fail
    go_ret3
    exact ⟨rfl, Below.refl _ _⟩
  · have h' : ¬ c.toNat < 119 := by omega
    go_enter Tryd.func45, Tryd.ntmps45
    go_wp2_with fail
    go_ret3
    exact ⟨rfl, Below.refl _ _⟩

set_option maxRecDepth 100000 in
theorem rgetI_none (s : ByteArray) (w : World) (hp : s.size = 0) :
    Calls Tryd.prog 45 #[.string s] w fun e w' => e = .returned (.tuple #[.int .i64 0, .int .i64 0, .int .i64 3]) ∧ Below w.heap.size w w' := by
  go_enter Tryd.func45, Tryd.ntmps45
  go_wp2_with fail
  go_ret3
  exact ⟨rfl, Below.refl _ _⟩

theorem head3 {a b : Int} {c : Int} {a' b' c' : Int} (h1 : a = a') (h2 : b = b') (h3 : c = c') :
    Ending.returned (.tuple #[.int .i64 a, .int .i64 b, .int .i64 c]) = .returned (.tuple #[.int .i64 a', .int .i64 b', .int .i64 c']) := by rw [h1, h2, h3]

theorem rgetI_any (s : ByteArray) (w : World) (hs : s.size ≤ 9223372036854775807) :
    Calls Tryd.prog 45 #[.string s] w fun e w' =>
      e = .returned (.tuple #[.int .i64 (Nm.getI s.data.toList).1, .int .i64 (Nm.getI s.data.toList).2.1, .int .i64 (Nm.getI s.data.toList).2.2]) ∧ Below w.heap.size w w' := by
  by_cases h0 : s.size = 0
  · have hr : Nm.getI s.data.toList = (0, 0, 3) := by rw [Nm.getI, if_pos (List.length_eq_zero_iff.1 (by simpa using h0))]
    rw [hr]
    exact rgetI_none s w h0
  have hp : 0 < s.size := by omega
  have hne := list_ne' s hp
  have hh := head_byte s hp
  obtain ⟨c, hc⟩ : ∃ c, s[0] = c := ⟨_, rfl⟩
  rw [hc] at hh
  have hb := c.toNat_lt
  by_cases hout : c.toNat < 119 ∨ 136 < c.toNat
  · have hr : Nm.getI s.data.toList = (0, 0, 4) := by
      rw [Nm.getI, if_neg hne, hh]
      by_cases h1 : 128 ≤ c.toNat
      · rw [if_pos h1]
        have : Nm.readN s.data.toList.tail (c.toNat - 128) 0 = (0, 4) := by rw [Nm.readN, if_pos (by omega)]
        rw [this]; rfl
      · rw [if_neg h1]
        have : Nm.readN s.data.toList.tail (127 - c.toNat) 255 = (0, 4) := by rw [Nm.readN, if_pos (by omega)]
        rw [this]; rfl
    rw [hr]
    exact rgetI_out s w hs hp c hc hout
  by_cases h1 : 128 ≤ c.toNat
  · obtain ⟨kk, hkk⟩ : ∃ kk, kk = c.toNat - 128 := ⟨_, rfl⟩
    have hg : Nm.getI s.data.toList = if (Nm.readN s.data.toList.tail kk 0).2 = 0 then (if 9223372036854775807 < (Nm.readN s.data.toList.tail kk 0).1 then ((0 : Int), (0 : Nat), (4 : Int)) else (((Nm.readN s.data.toList.tail kk 0).1 : Int), 1 + kk, (0 : Int))) else ((0 : Int), (0 : Nat), (Nm.readN s.data.toList.tail kk 0).2) := by
      rw [Nm.getI, if_neg hne]; simp only [hh]; rw [if_pos h1, ← hkk]
    rw [hg]
    by_cases hl : s.size < 1 + kk
    · rw [read_short s kk 0 (by omega) hp hl, if_neg (by decide)]
      exact rgetI_hi_short s w hs hp c hc kk (by omega) (by omega) hl
    have hpre := pre_zero s.data.toList.tail kk (by rw [tail_length]; omega) 0
    by_cases hd : 0 < kk ∧ s.data.toList.tail.headD 0 ^^^ UInt8.ofNat 0 = 0
    · rw [read_bad s kk 0 (by omega) (by omega) hd, if_neg (by decide)]
      exact rgetI_hi_bad s w hs hp c hc kk (by omega) (by omega) (by omega) _ rfl (by rw [hpre]; exact decide_eq_true (by simpa using hd))
    · rw [read_mid s kk 0 (by omega) (by omega) hd, if_pos rfl, Nm.tn_zero]
      have hpf : Lib.hasPrefix (s.data.toList.tail.take kk) [0] = false := by rw [hpre]; exact decide_eq_false (by simpa using hd)
      by_cases hm : 9223372036854775807 < Nm.val (s.data.toList.tail.take kk)
      · rw [if_pos hm]
        exact rgetI_hi_big s w hs hp c hc kk (by omega) (by omega) (by omega) _ rfl hpf hm
      · rw [if_neg hm]
        refine (rgetI_hi_ok s w hs hp c hc kk (by omega) (by omega) (by omega) _ rfl hpf (by omega)).mono ?_
        rintro e w' ⟨rfl, hb⟩
        exact ⟨head3 rfl (by show _ = ((1 + kk : Nat) : Int); omega) rfl, hb⟩
  · obtain ⟨kk, hkk⟩ : ∃ kk, kk = 127 - c.toNat := ⟨_, rfl⟩
    have hg : Nm.getI s.data.toList = if (Nm.readN s.data.toList.tail kk 255).2 = 0 then (if 9223372036854775807 < (Nm.readN s.data.toList.tail kk 255).1 then ((0 : Int), (0 : Nat), (4 : Int)) else (-1 - ((Nm.readN s.data.toList.tail kk 255).1 : Int), 1 + kk, (0 : Int))) else ((0 : Int), (0 : Nat), (Nm.readN s.data.toList.tail kk 255).2) := by
      rw [Nm.getI, if_neg hne]; simp only [hh]; rw [if_neg h1, ← hkk]
    rw [hg]
    by_cases hl : s.size < 1 + kk
    · rw [read_short s kk 255 (by omega) hp hl, if_neg (by decide)]
      exact rgetI_lo_short s w hs hp c hc kk (by omega) (by omega) hl
    have hpre := pre_zero s.data.toList.tail kk (by rw [tail_length]; omega) 255
    by_cases hd : 0 < kk ∧ s.data.toList.tail.headD 0 ^^^ UInt8.ofNat 255 = 0
    · rw [read_bad s kk 255 (by omega) (by omega) hd, if_neg (by decide)]
      exact rgetI_lo_bad s w hs hp c hc kk (by omega) (by omega) (by omega) _ rfl (by rw [hpre]; exact decide_eq_true (by rw [xor255] at hd; exact hd))
    · rw [read_mid s kk 255 (by omega) (by omega) hd, if_pos rfl]
      have hpf : Lib.hasPrefix (s.data.toList.tail.take kk) [255] = false := by rw [hpre]; exact decide_eq_false (by rw [xor255] at hd; exact hd)
      by_cases hm : 9223372036854775807 < Nm.val (Nm.tn 255 (s.data.toList.tail.take kk))
      · rw [if_pos hm]
        exact rgetI_lo_big s w hs hp c hc kk (by omega) (by omega) (by omega) _ rfl hpf hm
      · rw [if_neg hm]
        refine (rgetI_lo_ok s w hs hp c hc kk (by omega) (by omega) (by omega) _ rfl hpf (by omega)).mono ?_
        rintro e w' ⟨rfl, hb⟩
        exact ⟨head3 rfl (by show _ = ((1 + kk : Nat) : Int); omega) rfl, hb⟩
end Go.Proofs.YtcgecafajgoeeaaDoor
