/-
  What digits of the document's answer (package lumref) answers.
  What number, turned of the document's answer (package lumref) answer.
  The library's contracts at this program: strings_HasPrefix (laid by the guide's own tools, written out in plain words).
  What Put and Get of the document's answer (package lumref) answer.
  The bytes of '[]byte(s)'.
  What Greedy of the document's answer (package lumref) answers.
  What tokenText and TokensText of package lumref answer.
-/
import Derived.Test.YtgdkfaphbbdnbaaGNum
import Derived.Deep.RegionWith
import Derived.Deep.QuietTactic
import Derived.BigQuiet
import Derived.WalkSmall
import Derived.Shelf.Strings.Prefix
import Derived.Test.YtgdkfaphbbdnbaaProg
import Derived.Laws.IdiomStrings
import Derived.Test.YtgdkfaphbbdnbaaGLzB

namespace Go.Proofs.Ytgdkfaphbbdnbaa
open Go.RowKit
set_option maxRecDepth 4000

/-- 'string([]byte{b})' -/
theorem run_str1 (W : World) (a : Addr) (b : Int) (h : W.cell? a = some (.int .u8 b)) (h0 : 0 ≤ b) (h1 : b ≤ 255) (ha : a.spot = none) :
    (convert 26 9 (.slice (some a) 1 1)).run Try.prog W = .ok (.string ⟨#[UInt8.ofNat b.toNat]⟩) W := by
  refine run_convert_bytes_back W 26 9 5 a 1 [UInt8.ofNat b.toNat] (by kernel_rfl) (by kernel_rfl) (by kernel_rfl) ?_
  intro j hj
  have hj0 : j = 0 := by simpa using hj
  subst hj0
  obtain ⟨x, y, z⟩ := a
  simp only at ha
  subst ha
  simp [Addr.add, h]
  omega

theorem str_new (b : Int) (h0 : 0 ≤ b) (h1 : b ≤ 255) (W : World) :
    (convert 26 9 (.slice (some ⟨W.heap.size, 0, none⟩) 1 1)).run Try.prog (W.alloc (.cells #[.int .u8 b] 5)) = .ok (.string ⟨#[UInt8.ofNat b.toNat]⟩) (W.alloc (.cells #[.int .u8 b] 5)) :=
  run_str1 _ _ b (by simp) h0 h1 rfl
theorem str_new_drew (b : Int) (h0 : 0 ≤ b) (h1 : b ≤ 255) (W : World) :
    (convert 26 9 (.slice (some ⟨W.heap.size, 0, none⟩) 1 1)).run Try.prog (W.alloc (.cells #[.int .u8 b] 5)).drew = .ok (.string ⟨#[UInt8.ofNat b.toNat]⟩) (W.alloc (.cells #[.int .u8 b] 5)).drew :=
  run_str1 _ _ b (by simp) h0 h1 rfl
theorem str_kept (w : World) (b : Int) (h0 : 0 ≤ b) (h1 : b ≤ 255) {w' : World} (hb : Below (w.alloc (.cells #[.int .u8 b] 5)).drew.heap.size (w.alloc (.cells #[.int .u8 b] 5)).drew w') :
    (convert 26 9 (.slice (some ⟨w.heap.size, 0, none⟩) 1 1)).run Try.prog w' = .ok (.string ⟨#[UInt8.ofNat b.toNat]⟩) w' :=
  run_str1 _ _ b (by rw [hb.cell (by simp)]; simp) h0 h1 rfl

set_option maxHeartbeats 400000 in
theorem digits_any (k : Nat) : ∀ (n : Int) (w : World), 0 ≤ n → n.toNat < 256 ^ k → k ≤ 8 →
    Calls Try.prog 67 #[.int .u64 n] w fun e w' => e = .returned (.string ⟨(Nm.digF k n.toNat).toArray⟩) ∧ Below w.heap.size w w' := by
  induction k with
  | zero =>
    intro n w h0 h1 _
    have hn : n = 0 := by simp at h1; omega
    subst hn
    go_enter Try.func67, Try.ntmps67
    go_wp2_with fail
    go_ret
    exact ⟨rfl, Below.refl _ _⟩
  | succ k ih =>
    intro n w h0 h1 h8
    by_cases hn : n = 0
    · subst hn
      go_enter Try.func67, Try.ntmps67
      go_wp2_with fail
      go_ret
      exact ⟨rfl, Below.refl _ _⟩
    · have h64 : n ≤ 18446744073709551615 := by
        have : 256 ^ (k + 1) ≤ 256 ^ 8 := Nat.pow_le_pow_right (by omega) h8
        omega
      have hd : Hid (Nm.digF (k + 1) n.toNat = Nm.digF k (n / 256).toNat ++ [UInt8.ofNat (n % 256).toNat]) := by
        show _ = _
        rw [Nm.digF, if_neg (by omega), show (n / 256).toNat = n.toNat / 256 from by omega, show (n % 256).toNat = n.toNat % 256 from by omega]
      have hlt : (n / 256).toNat < 256 ^ k := by rw [Nat.pow_succ] at h1; omega
      have hq : (n == 0) = false := by simpa using hn
      have H1 : Hid ((n / 256).toNat < 256 ^ k) := hlt
      clear h1 hlt hn
      have hw1 : IntKind.u64.wrap (n.tdiv 256) = n / 256 := by rw [Int.tdiv_eq_ediv_of_nonneg h0]; exact wrap_u64 _ (by omega) (by omega)
      have hw2 : n.tmod 256 = n % 256 := Int.tmod_eq_emod_of_nonneg h0
      have hw3 : IntKind.u8.wrap (n % 256) = n % 256 := by simp only [IntKind.wrap, IntKind.bits, IntKind.signed]; simp
      have m0 : 0 ≤ n % 256 := by omega
      have m1 : n % 256 ≤ 255 := by omega
      have hr1 := str_new (n % 256) m0 m1
      have hr2 := str_new_drew (n % 256) m0 m1
      have hcat : ∀ W : World, (Op.stringOp .add ⟨(Nm.digF k (n / 256).toNat).toArray⟩ ⟨#[UInt8.ofNat (n % 256).toNat]⟩).run Try.prog W = .ok (.string ⟨(Nm.digF k (n / 256).toNat ++ [UInt8.ofNat (n % 256).toNat]).toArray⟩) W := fun W =>
        run_string_add_lists W _ [UInt8.ofNat (n % 256).toNat] (by have := Nm.digF_length_le k (n / 256).toNat; omega) (by simp)
      go_enter Try.func67, Try.ntmps67
      go_wp2_with fail
      go_region_with (go_at_call 67; refine (ih (n / 256) _ (by omega) H1.out (by omega)).mono ?_; rintro e w' ⟨rfl, hb⟩; try (have hr3 := str_kept w (n % 256) m0 m1 hb))
      all_goals
        clear hr1 hr2 hcat
        go_wp2_with fail
        go_ret
        refine ⟨by rw [hd.out]; rfl, ?_⟩
        first
          | (have h := hb.size; exact ((Below.refl _ _).drew.trans hb).alloc (by simpa using h) _)
          | exact (((Below.refl _ _).alloc (Nat.le_refl _) _).drew).trans (hb.mono (by simp))
end Go.Proofs.Ytgdkfaphbbdnbaa

namespace Go.Proofs.Ytgdkfaphbbdnbaa
open Go.RowKit
set_option maxRecDepth 4000

theorem number_step (s : ByteArray) (q : Nat) (hq : s.size = q + 1) (h8 : s.size ≤ 8) :
    IntKind.u64.wrap (256 * (Nm.val (s.data.toList.take q) : Int)) = 256 * (Nm.val (s.data.toList.take q) : Int) ∧
    256 * Nm.val (s.data.toList.take q) + (s[q]'(by omega)).toNat = Nm.val s.data.toList ∧ Nm.val s.data.toList < 18446744073709551616 := by
  have h1 := take_snoc s q (by omega)
  rw [List.take_of_length_le (by rw [← Lib.size_eq]; omega)] at h1
  have hlt := Nm.val_lt s.data.toList
  have hp : 256 ^ s.data.toList.length ≤ 256 ^ 8 := Nat.pow_le_pow_right (by omega) (by rw [← Lib.size_eq]; exact h8)
  have h2 : Nm.val s.data.toList = 256 * Nm.val (s.data.toList.take q) + (s[q]'(by omega)).toNat := by rw [← Nm.val_snoc, ← h1]
  exact ⟨wrap_u64 _ (by omega) (by omega), by omega, by omega⟩

set_option maxHeartbeats 400000 in
theorem number_any (k : Nat) : ∀ (s : ByteArray) (w : World), s.size ≤ k → k ≤ 8 →
    Calls Try.prog 75 #[.string s] w fun e w' => e = .returned (.int .u64 (Nm.val s.data.toList)) ∧ ∃ m, w' = w.drewN m := by
  induction k with
  | zero =>
    intro s w h0 _
    have hs : s.data.toList = [] := List.length_eq_zero_iff.1 (by rw [← Lib.size_eq]; omega)
    have hq : s.toList.isEmpty = true := by rw [Lib.toList_data, hs]; rfl
    have e : Nm.val s.data.toList = 0 := by rw [hs]; rfl
    rw [e]
    clear hs e
    go_enter Try.func75, Try.ntmps75
    go_wp2_with fail
    go_ret
    exact ⟨rfl, 0, rfl⟩
  | succ k ih =>
    intro s w h1 h8
    by_cases h0 : s.size = 0
    · exact ih s w (by omega) (by omega)
    · obtain ⟨q, hq1⟩ : ∃ q, s.size = q + 1 := ⟨s.size - 1, by omega⟩
      obtain ⟨e1, e2, e3⟩ := number_step s q hq1 (by omega)
      have hlt : q < s.size := by omega
      have hb := s[q].toNat_lt
      have hp : 0 < s.size := by omega
      have hw1 : IntKind.i64.wrap ((s.size : Int) - 1) = (q : Int) := by rw [IntKind.wrap_i64]; omega
      have hq : s.toList.isEmpty = false := by
        rw [Lib.toList_data]
        cases hl : s.data.toList with
        | nil => have := Lib.size_eq s; rw [hl, List.length_nil] at this; omega
        | cons => rfl
      have HE : Hid (256 * Nm.val (s.data.toList.take q) + s[q].toNat = Nm.val s.data.toList) := e2
      have HQ : Hid (s.size = q + 1) := hq1
      clear e2 hq1
      go_enter Try.func75, Try.ntmps75
      go_wp2_with fail
      go_quiet ((go_at_call 75; refine Calls.quiet_of (ih _ _ (by simp only [ByteArray.size_extract]; omega) (by omega))))
      go_wp2_with fail
      go_ret
      refine ⟨ret_int ?_, _, rfl⟩
      have := HE.out
      rw [wrap_u64 _ (by omega) (by omega)]
      omega
end Go.Proofs.Ytgdkfaphbbdnbaa

namespace Go.Proofs
open Go.Shelf
def Try.lays99_ren : Go.Shelf.Ren := ⟨fun | 99 => 46 | 206 => 77 | n => n, fun | 9 => 9 | 4 => 4 | 3 => 3 | n => n, fun | n => n⟩
theorem Try.lays99 : Go.Proofs.Lays.n99 Try.prog Try.lays99_ren := {
  mixed := by kernel_rfl
  f99 := Try.func46.trans (congrArg some (by kernel_rfl))
  f206 := Try.func77.trans (congrArg some (by kernel_rfl))
  t3 := Try.underlying3
  a3 := Try.isAgg3
  z3 := Try.sizeOf3
  v3 := Try.zeroValue3
  t4 := Try.underlying4
  a4 := Try.isAgg4
  z4 := Try.sizeOf4
  v4 := Try.zeroValue4
  t9 := Try.underlying9
  a9 := Try.isAgg9
  z9 := Try.sizeOf9
  v9 := Try.zeroValue9 }
open Go.RowKit Go.Lib in
theorem Try.strings_HasPrefix (s p : ByteArray) (w : World) :
    Calls Try.prog 46 #[.string s, .string p] w fun e w' => e = .returned (.bool (Lib.hasPrefix s.data.toList p.data.toList)) ∧ w' = w := Any.strings_HasPrefix Try.lays99 s p w
end Go.Proofs

namespace Go.Proofs.Ytgdkfaphbbdnbaa
open Go.RowKit
set_option maxRecDepth 4000

set_option maxHeartbeats 400000 in
theorem rput_any (n : Int) (w : World) (n0 : 0 ≤ n) (n1 : n ≤ 18446744073709551615) :
    Calls Try.prog 36 #[.int .u64 n] w fun e w' => e = .returned (.string ⟨(Nm.put n.toNat).toArray⟩) ∧ Below w.heap.size w w' := by
  have hl := Nm.dig_length_le n.toNat
  have hr1 := str_new ((Nm.dig n.toNat).length : Int) (by omega) (by omega)
  have hcat : ∀ W : World, (Op.stringOp .add ⟨#[UInt8.ofNat ((Nm.dig n.toNat).length : Int).toNat]⟩ ⟨(Nm.dig n.toNat).toArray⟩).run Try.prog W = .ok (.string ⟨(Nm.put n.toNat).toArray⟩) W := fun W =>
    run_string_add_lists W [UInt8.ofNat ((Nm.dig n.toNat).length : Int).toNat] _ (by simp) (by omega)
  rw [Int.toNat_natCast] at hcat
  simp only [Int.toNat_natCast] at hr1
  go_enter Try.func36, Try.ntmps36
  go_wp2_with fail
  refine (digits_any 8 n _ n0 (by omega) (by omega)).mono ?_
  rintro e w1 ⟨rfl, hb⟩
  rw [show Nm.digF 8 n.toNat = Nm.dig n.toNat from rfl]
  have hbs := hb.size
  go_wp2_with fail
  go_ret
  exact ⟨rfl, hb.alloc hbs _⟩

theorem pre_zero (l : List UInt8) (k : Nat) (h : k ≤ l.length) (z : UInt8) : Lib.hasPrefix (l.take k) [z] = decide (0 < k ∧ l.headD 0 = z) := by
  cases k with
  | zero => simp [Lib.hasPrefix]
  | succ k =>
    cases l with
    | nil => simp at h
    | cons b l =>
      have e : Lib.hasPrefix (List.take (k + 1) (b :: l)) [z] = (z == b) := by simp [Lib.hasPrefix, List.isPrefixOf]
      rw [e, Bool.eq_iff_iff, beq_iff_eq, decide_eq_true_eq]
      exact ⟨fun h => ⟨by omega, h.symm⟩, fun h => h.2.symm⟩
theorem mid_data (s : ByteArray) (k : Nat) : (s.extract 1 (1 + k)).data.toList = s.data.toList.tail.take k := by
  rw [Lib.extract_data, List.drop_one, Nat.add_sub_cancel_left]
theorem tail_length (s : ByteArray) : s.data.toList.tail.length = s.size - 1 := by rw [List.length_tail, ← Lib.size_eq]
theorem list_ne' (s : ByteArray) (h : 0 < s.size) : s.data.toList ≠ [] := by
  intro e; have := Lib.size_eq s; rw [e] at this; simp only [List.length_nil] at this; omega

set_option maxHeartbeats 400000 in
theorem rget_any (s : ByteArray) (w : World) (hs : s.size ≤ 9223372036854775807) :
    Calls Try.prog 43 #[.string s] w fun e w' =>
      e = .returned (.tuple #[.int .u64 (Nm.getN s.data.toList).1, .int .i64 (Nm.getN s.data.toList).2.1, .int .i64 (Nm.getN s.data.toList).2.2]) ∧ ∃ m, w' = w.drewN m := by
  by_cases h0 : s.size = 0
  · have hr : Nm.getN s.data.toList = (0, 0, 3) := by rw [Nm.getN, if_pos (List.length_eq_zero_iff.1 (by simpa using h0))]
    rw [hr]
    go_enter Try.func43, Try.ntmps43
    go_wp2_with fail
    go_ret3
    exact ⟨rfl, 0, rfl⟩
  · have hp : 0 < s.size := by omega
    have hne := list_ne' s hp
    have hb := s[0].toNat_lt
    have hh := head_byte s hp
    have hz : ((s.size : Int) == 0) = false := beq_eq_false_iff_ne.2 (by omega)
    have hg : Nm.getN s.data.toList = if (Nm.readN s.data.toList.tail s[0].toNat 0).2 = 0 then ((Nm.readN s.data.toList.tail s[0].toNat 0).1, 1 + s[0].toNat, (0 : Int)) else ((0 : Nat), (0 : Nat), (Nm.readN s.data.toList.tail s[0].toNat 0).2) := by
      rw [Nm.getN, if_neg hne]; simp only [hh]
    have htl := tail_length s
    rw [hg]
    clear hg hh hne h0
    generalize hc : s[0] = c at *
    by_cases h8 : 8 < c.toNat
    · have hr : Nm.readN s.data.toList.tail c.toNat 0 = (0, 4) := by rw [Nm.readN, if_pos h8]
      rw [hr, if_neg (by decide)]
      clear htl
      go_enter Try.func43, Try.ntmps43
      go_wp2_with fail
      go_ret3
      exact ⟨rfl, 0, rfl⟩
    by_cases hk : s.size < 1 + c.toNat
    · have hr : Nm.readN s.data.toList.tail c.toNat 0 = (0, 3) := by rw [Nm.readN, if_neg h8, if_pos (by omega)]
      rw [hr, if_neg (by decide)]
      clear htl
      go_enter Try.func43, Try.ntmps43
      go_wp2_with fail
      go_ret3
      exact ⟨rfl, 0, rfl⟩
    have hpre := pre_zero s.data.toList.tail c.toNat (by omega) 0
    rw [← mid_data] at hpre
    by_cases hd : 0 < c.toNat ∧ s.data.toList.tail.headD 0 = 0
    · have hr : Nm.readN s.data.toList.tail c.toNat 0 = (0, 4) := by rw [Nm.readN, if_neg h8, if_neg (by omega), if_pos (by simpa using hd)]
      rw [hr, if_neg (by decide)]
      rw [decide_eq_true hd] at hpre
      have HP : Hid (Lib.hasPrefix (s.extract 1 (1 + c.toNat)).data.toList [0] = true) := hpre
      clear htl hpre hd hr
      go_enter Try.func43, Try.ntmps43
      go_wp2_with fail
      refine (Try.strings_HasPrefix _ _ _).mono ?_
      rintro e w' ⟨rfl, rfl⟩
      rw [show ({ data := #[0] } : ByteArray).data.toList = [0] from rfl, HP.out]
      go_wp2_with fail
      go_ret3
      exact ⟨rfl, 0, rfl⟩
    · have hr : Nm.readN s.data.toList.tail c.toNat 0 = (Nm.val (s.data.toList.tail.take c.toNat), 0) := by
        rw [Nm.readN, if_neg h8, if_neg (by omega), if_neg (by simpa using hd), Nm.tn_zero]
      rw [hr, if_pos rfl]
      rw [decide_eq_false hd] at hpre
      have HP : Hid (Lib.hasPrefix (s.extract 1 (1 + c.toNat)).data.toList [0] = false) := hpre
      clear htl hpre hd hr
      go_enter Try.func43, Try.ntmps43
      go_wp2_with fail
      refine (Try.strings_HasPrefix _ _ _).mono ?_
      rintro e w' ⟨rfl, rfl⟩
      rw [show ({ data := #[0] } : ByteArray).data.toList = [0] from rfl, HP.out]
      go_wp2_with fail
      refine (number_any 8 _ _ (by simp only [ByteArray.size_extract]; omega) (by omega)).mono ?_
      rintro e w1 ⟨rfl, m, rfl⟩
      rw [mid_data]
      go_wp2_with fail
      go_ret3
      exact ⟨rfl, m, rfl⟩
end Go.Proofs.Ytgdkfaphbbdnbaa

namespace Go.Proofs.Ytgdkfaphbbdnbaa
open Go.RowKit

theorem bytes_cell (w : World) (s : ByteArray) (cap : Nat) (z : Nat × Nat) (j : Nat) (hj : j < s.size) :
    (w.alloc (.cells (bytesRow s cap) 5 z)).drew.cell? ⟨w.heap.size, j, none⟩ = some (.int .u8 (s[j].toNat : Int)) := by
  have hh : (w.alloc (.cells (bytesRow s cap) 5 z)).drew.heap[w.heap.size]? = some (.cells (bytesRow s cap) 5 z) := heap_alloc_new w _
  rw [cell_of_row _ w.heap.size j _ _ _ hh]
  have hsz : j < s.data.size := hj
  rw [bytesRow, Array.getElem?_append_left (by simpa using hsz), Array.getElem?_map, Array.getElem?_eq_getElem hsz]
  rfl
theorem bytes_free (w : World) (s : ByteArray) (cap : Nat) (j : Nat) (hj : j < s.size) :
    (w.alloc (.cells (bytesRow s cap) 5 ((bytesRow s cap).size, (bytesRow s cap).size + 1))).drew.frozen? ⟨w.heap.size, j, none⟩ = false := by
  have hh : (w.alloc (.cells (bytesRow s cap) 5 ((bytesRow s cap).size, (bytesRow s cap).size + 1))).drew.heap[w.heap.size]? = some (.cells (bytesRow s cap) 5 ((bytesRow s cap).size, (bytesRow s cap).size + 1)) := heap_alloc_new w _
  have hsz : j < s.data.size := hj
  simp only [World.frozen?, hh]
  simp [bytesRow]
  omega
end Go.Proofs.Ytgdkfaphbbdnbaa

namespace Go.Proofs.Ytgdkfaphbbdnbaa
open Go.RowKit
set_option maxRecDepth 4000

namespace Lz
/-- the best token so far -/
def bTok (c : UInt8) (b : Nat × Nat) : Tr := ⟨if b.1 = 0 then c else 0, b.1, b.2⟩
theorem bTok_tokAt (s : Bs) (p : Nat) : bTok (s.getD p 0) (bst s p (min 1024 p)) = (tokAt s p).raw := by
  have h := bst_is s p (min 1024 p)
  unfold bTok tokAt Tk.raw
  unfold bestAt
  by_cases e : (bst s p (min 1024 p)).1 = 0
  · rcases h with h | h
    · rw [h]; rfl
    · omega
  · rw [if_neg e, if_neg e]
theorem bTok_size (s : Bs) (p : Nat) : (tokAt s p).size = if (bst s p (min 1024 p)).1 = 0 then 1 else (bst s p (min 1024 p)).1 := by
  unfold tokAt Tk.size bestAt
  by_cases e : (bst s p (min 1024 p)).1 = 0
  · rw [if_pos e, if_pos e]; rfl
  · rw [if_neg e, if_neg e]
/-- the count goes on -/
def goes (s : Bs) (p d k : Nat) : Bool := decide (k < 255 ∧ p + k < s.length ∧ s[p + k]? = s[p + k - d]?)
end Lz
theorem byte_eq (a b : UInt8) : ((a.toNat : Int) == (b.toNat : Int)) = decide (a = b) := by
  by_cases h : a = b
  · subst h; simp
  · rw [decide_eq_false h, beq_eq_false_iff_ne]
    intro e
    exact h (UInt8.toNat_inj.1 (by omega))

set_option maxRecDepth 100000 in
set_option maxHeartbeats 2000000 in
theorem rgreedy_of (s : ByteArray) (w : World) (hs : s.size ≤ 4096) (L : List UInt8) (hL : L.length = s.size) (hby : ∀ k (h : k < s.size), L[k]? = some s[k]) :
    Calls Try.prog 33 #[.string s] w fun e w' => ∃ v, e = .returned v ∧ w'.ownsRow w.heap.size 79 3 v (Lz.restR L 0).length (rowC (Lz.restR L 0)) ∧ Below w.heap.size w w' := by
  have HL : Hid (L.length = s.size) := hL
  have HY : Hid (∀ k (h : k < s.size), L[k]? = some s[k]) := hby
  clear hL hby
  obtain ⟨i0, hi, hz0, hz1, hz2⟩ := info_parts info_tok
  go_enter Try.func33, Try.ntmps33
  go_wp2_with fail
  go_loopw [3, 4] (fun v i wr => ∃ (p : Nat) (out : List Lz.Tr), p ≤ s.size ∧ out.length ≤ p ∧ i = .int .i64 p ∧ Hid (out ++ Lz.restR L p = Lz.restR L 0) ∧ wr.ownsRow w.heap.size 79 3 v out.length (rowC out) ∧ Below w.heap.size w wr) (fun _ i _ => s.size - (intOf i).toNat)
  case atStart => exact ⟨0, [], by omega, by simp, rfl, rfl, World.ownsRow_nil _ _ _ _, Below.refl _ _⟩
  case round =>
    obtain ⟨p, out, hp, ho, rfl, hout, hown, hbel⟩ := hrel
    rename World => wo
    by_cases hlt : p < s.size
    · obtain ⟨q, hq⟩ : ∃ q : Nat, q = min 1024 p := ⟨_, rfl⟩
      have HQ : Hid (q = min 1024 p) := hq
      have hq1 : q ≤ p := by omega
      clear hq
      have hsr := hbel.size
      generalize hc : s[p] = c
      have HC : Hid (L.getD p 0 = c) := by show _ = _; rw [List.getD_eq_getElem?_getD, HY.out p hlt, hc]; rfl
      obtain ⟨W4, hW4⟩ : ∃ W4, W4 = wo.alloc (.cells #[.int .u8 c.toNat, .int .i64 0, .int .i64 0] 79) := ⟨_, rfl⟩
      have X2 : Hid (Box W4 wo.heap.size (Lz.bTok c (Lz.bst L p 0))) := by rw [hW4]; exact Box.new wo ⟨c, 0, 0⟩
      have XB : Hid (Below wo.heap.size wo W4) := by rw [hW4]; exact (Below.refl _ wo).alloc (Nat.le_refl _) _
      go_wp2_with fail
      rw [← hW4]
      clear hW4
      go_loopw [6] (fun i wr2 => ∃ D : Nat, D ≤ q ∧ i = .int .i64 ((D : Int) + 1) ∧ Hid (Box wr2 wo.heap.size (Lz.bTok c (Lz.bst L p D))) ∧ Below wo.heap.size wo wr2) (fun i _ => q + 1 - (intOf i).toNat)
      case atStart => exact ⟨0, by omega, rfl, X2, XB.out⟩
      case round =>
        obtain ⟨D, hD, rfl, hx2, hbel2⟩ := hrel
        rename World => wp
        obtain ⟨b0, hb0⟩ : ∃ b, b = decide (D < q) := ⟨_, rfl⟩
        have HB0 : Hid (b0 = decide (D < q)) := hb0
        clear hb0
        go_upto_region 6 with fail
        go_cut [22] from 16 to 58 (fun x wx => x = .bool b0 ∧ wx = wp)
        case first =>
          go_wp2_with fail
          all_goals go_meet
          all_goals exact ⟨by rw [HB0.out]; first | exact congrArg Value.bool (decide_eq_decide.2 (by have := HQ.out; omega)) | exact congrArg Value.bool (decide_eq_false (by have := HQ.out; omega)).symm | exact congrArg Value.bool (decide_eq_true (by have := HQ.out; omega)).symm, rfl⟩
        case rest =>
        obtain ⟨rfl, rfl⟩ := hcut
        rename World => wd
        cases b0 with
        | true =>
          have hDq := of_decide_eq_true HB0.out.symm
          clear HB0
          go_wp2_with fail
          go_loopw [7] (fun n wr3 => ∃ k : Nat, k ≤ 255 ∧ p + k ≤ s.size ∧ n = .int .i64 k ∧ Hid (Lz.M L p (D + 1) k) ∧ Below wd.heap.size wd wr3) (fun n _ => 255 - (intOf n).toNat)
          case atStart => exact ⟨0, by omega, by omega, rfl, Lz.M.none (by rw [HL.out]; exact hp), Below.refl _ _⟩
          case round =>
            obtain ⟨k, hk, hpk, rfl, hM, hbel3⟩ := hrel
            rename World => wq
            obtain ⟨b, hb⟩ : ∃ b, b = Lz.goes L p (D + 1) k := ⟨_, rfl⟩
            have HB : Hid (b = Lz.goes L p (D + 1) k) := hb
            clear hb
            go_upto_region 9 with fail
            go_cut [49] from 25 to 51 (fun x wx => x = .bool b ∧ Below wd.heap.size wd wx)
            case first =>
              have hne : Nonempty (Since wq.heap.size wq) := ⟨⟨wq, Below.refl _ _⟩⟩
              by_cases h1 : k < 255
              · have e1 : decide ((k : Int) < 255) = true := by rw [decide_eq_true_eq]; omega
                by_cases h2 : p + k < s.size
                · have e2 : decide ((p : Int) + (k : Int) < (s.size : Int)) = true := by rw [decide_eq_true_eq]; omega
                  obtain ⟨m, hm⟩ : ∃ m, m = p + k - (D + 1) := ⟨_, rfl⟩
                  have hb2 : m < s.size := by omega
                  have G1 := HY.out (p + k) h2
                  have G2 := HY.out m hb2
                  have HG : Hid (b = decide (s[p + k] = s[m])) := by
                    show _ = _
                    rw [HB.out]
                    unfold Lz.goes
                    rw [← hm, G1, G2]
                    exact decide_eq_decide.2 ⟨fun h => by simpa using h.2.2, fun h => ⟨h1, by rw [HL.out]; exact h2, by rw [h]⟩⟩
                  have i1 : (0 : Int) ≤ (p : Int) + (k : Int) := by omega
                  have i2 : (p : Int) + (k : Int) < (s.size : Int) := by omega
                  have i3 : (p : Int) + (k : Int) - ((D : Int) + 1) = (m : Int) := by omega
                  have e3 := byte_eq s[p + k] s[m]
                  rw [← HG.out] at e3
                  clear G1 G2 hm
                  refine wp_region_since (B := wq.heap.size) (W0 := wq) (by kernel_rfl) (by kernel_rfl) (Below.refl _ _) ?_
                  repeat (go_big_quiet_step (fail))
                  refine wpQuiet_nil ?_
                  rintro w7 ⟨U, rfl⟩
                  have hU := hbel3.trans (U.property.mono hbel3.size)
                  go_wp2_with fail
                  go_meet
                  exact ⟨rfl, hU⟩
                · have e2 : decide ((p : Int) + (k : Int) < (s.size : Int)) = false := by rw [decide_eq_false_iff_not]; omega
                  obtain rfl : b = false := by rw [HB.out]; exact decide_eq_false fun h => h2 (by rw [← HL.out]; exact h.2.1)
                  refine wp_region_since (B := wq.heap.size) (W0 := wq) (by kernel_rfl) (by kernel_rfl) (Below.refl _ _) ?_
                  repeat (go_big_quiet_step (fail))
                  refine wpQuiet_nil ?_
                  rintro w7 ⟨U, rfl⟩
                  have hU := hbel3.trans (U.property.mono hbel3.size)
                  go_wp2_with fail
                  go_meet
                  exact ⟨rfl, hU⟩
              · have e1 : decide ((k : Int) < 255) = false := by rw [decide_eq_false_iff_not]; omega
                obtain rfl : b = false := by rw [HB.out]; exact decide_eq_false fun h => h1 h.1
                refine wp_region_since (B := wq.heap.size) (W0 := wq) (by kernel_rfl) (by kernel_rfl) (Below.refl _ _) ?_
                repeat (go_big_quiet_step (fail))
                refine wpQuiet_nil ?_
                rintro w7 ⟨U, rfl⟩
                have hU := hbel3.trans (U.property.mono hbel3.size)
                go_wp2_with fail
                go_meet
                exact ⟨rfl, hU⟩
            case rest =>
            obtain ⟨rfl, hbel4⟩ := hcut
            clear hbel3
            cases b with
            | true =>
              have hg := of_decide_eq_true HB.out.symm
              have HM : Hid (Lz.M L p (D + 1) (k + 1)) := hM.out.succ hg.2.1 hg.2.2
              have hg1 := hg.1
              have hg2 : p + k < s.size := by rw [← HL.out]; exact hg.2.1
              clear hg
              go_wp2_with fail
              go_roundw
              case rel => exact ⟨k + 1, by omega, by omega, by go_num, HM, hbel4⟩
              case measure => simp only [intOf]; omega
            | false =>
              have HK : Hid (k = Lz.ml L p (D + 1) 255) := Lz.ml_stop (by rw [HL.out]; exact hp) hk hM.out (of_decide_eq_false HB.out.symm)
              have HBS : Hid (Lz.bst L p (D + 1) = if (Lz.bst L p D).1 < k then (k, D + 1) else Lz.bst L p D) := by rw [HK.out]; rfl
              generalize hbd : Lz.bst L p D = bd at *
              have hlw := hx2.out.lt
              have HY2 : Hid (Box wc wo.heap.size (Lz.bTok c bd)) := hx2.out.below hbel4 hlw
              have HB2 : Hid (Below wo.heap.size wo wc) := hbel2.trans (hbel4.mono hbel2.size)
              have c0 := HY2.out.c0
              have c1 : wc.cell? ⟨wo.heap.size, 1, none⟩ = some (.int .i64 bd.1) := HY2.out.c1
              have c2 := HY2.out.c2
              have f0 := HY2.out.f0
              have f1 := HY2.out.f1
              have f2 := HY2.out.f2
              clear hx2 hbel4 hbel2 hM HB HK
              by_cases hgt : bd.1 < k
              · rw [if_pos hgt] at HBS
                have HN : Hid (Box (((wc.setCell ⟨wo.heap.size, 0, none⟩ (.int .u8 0)).setCell ⟨wo.heap.size, 1, none⟩ (.int .i64 k)).setCell ⟨wo.heap.size, 2, none⟩ (.int .i64 ((D : Int) + 1))) wo.heap.size ⟨0, (k : Int), (D : Int) + 1⟩) := HY2.out.store (u := ⟨0, (k : Int), (D : Int) + 1⟩)
                have HT : Hid (Lz.bTok c (k, D + 1) = ⟨0, (k : Int), (D : Int) + 1⟩) := by
                  show Lz.Tr.mk (if k = 0 then c else 0) _ _ = _
                  rw [if_neg (by omega)]; rfl
                go_wp2_with fail
                refine ⟨⟨D + 1, by omega, int_eq (by omega), ?_, ?_⟩, by simp only [intOf]; omega⟩
                · rw [HBS.out, HT.out]; exact HN.out
                · exact ((HB2.out.setCell (by simp) _).setCell (by simp) _).setCell (by simp) _
              · rw [if_neg hgt] at HBS
                go_wp2_with fail
                go_roundw
                case rel => exact ⟨D + 1, by omega, by go_num, by rw [HBS.out]; exact HY2, HB2.out⟩
                case measure => simp only [intOf]; omega
        | false =>
          have hDq := of_decide_eq_false HB0.out.symm
          obtain rfl : D = q := by omega
          clear HB0
          have HT : Hid (Lz.bTok c (Lz.bst L p D) = (Lz.tokAt L p).raw) := by
            show _ = _
            rw [← HC.out, HQ.out]; exact Lz.bTok_tokAt L p
          have hlp : p < L.length := by rw [HL.out]; exact hlt
          have HZ : Hid ((Lz.tokAt L p).size = if (Lz.bst L p D).1 = 0 then 1 else (Lz.bst L p D).1) := by rw [HQ.out]; exact Lz.bTok_size L p
          have hfs : p + (Lz.tokAt L p).size ≤ s.size := by rw [← HL.out]; exact (Lz.fits_tokAt hlp).size
          have HRp : Hid (Lz.restR L p = (Lz.tokAt L p).raw :: Lz.restR L (p + (Lz.tokAt L p).size)) := by
            show (Lz.rest _ _).map _ = _
            rw [Lz.rest_step _ _ hlp]; rfl
          have HX2 : Hid (Box wd wo.heap.size ⟨(Lz.bTok c (Lz.bst L p D)).lit, (Lz.bst L p D).1, (Lz.bst L p D).2⟩) := hx2
          have HTT : Hid (Lz.Tr.mk (Lz.bTok c (Lz.bst L p D)).lit (Lz.bst L p D).1 (Lz.bst L p D).2 = (Lz.tokAt L p).raw) := HT.out
          generalize (Lz.bTok c (Lz.bst L p D)).lit = l0 at *
          generalize Lz.bst L p D = bd at *
          generalize (Lz.tokAt L p).raw = t at *
          generalize hzz : (Lz.tokAt L p).size = z at *
          have HLO : Hid (∀ k, u3.ownBlock = some k → k < wo.heap.size) := fun k hk => (hown.lt k hk).2
          have hown2 : wd.ownsRow w.heap.size 79 3 u3 out.length (rowC out) := own_below hown hbel2
          have hB2 := hbel.trans (hbel2.mono hbel.size)
          have hs2 := hB2.size
          have hlw := HX2.out.lt
          have c0 := HX2.out.c0
          have c1 := HX2.out.c1
          have c2 := HX2.out.c2
          clear hx2 hown hbel hbel2 hlp hzz
          go_wp2_with (at_builtin; refine wpList_append_own _ rfl (.tmp 59) (.tmp 61) 47 rfl w.heap.size 79 i0 (.agg #[.int .u8 0, .int .i64 0, .int .i64 0]) 3 24 Try.underlying47 hi hz0 hz1 hz2 rfl (by decide) _ _ _ rfl (hown2.alloc _) ⟨wd.heap.size, 0, none⟩ 1 1 (tokC ⟨l0, bd.1, bd.2⟩) rfl rfl ?c1 ?c2 ?c3 ?c4 ?c5 ?_)
          case c1 =>
            intro j u hj
            match j, hj with
            | 0, hj => simp [tokC] at hj; subst hj; simp
            | 1, hj => simp [tokC] at hj; subst hj; simp
            | 2, hj => simp [tokC] at hj; subst hj; simp
          case c2 => intro u hu; simp [tokC] at hu; rcases hu with rfl | rfl | rfl <;> rfl
          case c3 => unfold maxLen; omega
          case c4 => omega
          case c5 => omega
          intro v' w4 hown4 hgrow _
          have hne : some wo.heap.size ≠ u3.ownBlock := fun e => by have := HLO.out _ e.symm; omega
          have x1 : w4.cell? ⟨wo.heap.size, 1, none⟩ = some (.int .i64 bd.1) := hgrow.cell ((((Below.refl _ wd).alloc (Nat.le_refl _) _).cell (p := ⟨wo.heap.size, 1, none⟩) hlw).trans c1) hne
          have HB4 : Hid (Below w.heap.size w w4) := (hB2.alloc hs2 _).grown hgrow (by simp; omega) fun k hk => (hown2.lt k hk).1
          have HO4 : Hid (w4.ownsRow w.heap.size 79 3 v' (out ++ [t]).length (rowC (out ++ [t]))) := by
            rw [HTT.out] at hown4
            exact own_tok hown4
          have HOU : Hid ((out ++ [t]) ++ Lz.restR L (p + z) = Lz.restR L 0) := by
            show _ = _
            rw [← hout.out, HRp.out]
            simp
          clear hown4 hgrow hown2 hB2 hne c0 c1 c2 HX2 HTT
          by_cases hzero : bd.1 = 0
          · have hq0 : ((bd.1 : Int) == 0) = true := by rw [hzero]; rfl
            have hz1 : z = 1 := by have := HZ.out; rw [if_pos hzero] at this; exact this
            rw [hz1] at HOU hfs
            clear hzero
            go_wp2_with fail
            go_roundw
            case rel => exact ⟨p + 1, out ++ [t], hfs, by simp; omega, by go_num, HOU, HO4.out, HB4.out⟩
            case measure => simp only [intOf]; omega
          · have hq0 : ((bd.1 : Int) == 0) = false := by rw [beq_eq_false_iff_ne]; omega
            have hz1 : z = bd.1 := by have := HZ.out; rw [if_neg hzero] at this; exact this
            rw [hz1] at HOU hfs
            go_wp2_with fail
            go_roundw
            case rel => exact ⟨p + bd.1, out ++ [t], hfs, by simp; omega, by go_num, HOU, HO4.out, HB4.out⟩
            case measure => simp only [intOf]; omega
    · have HE : Hid (out = Lz.restR L 0) := by
        show _ = _
        have h0 : Lz.restR L p = [] := by
          show (Lz.rest _ _).map _ = _
          rw [Lz.rest_end _ _ (by rw [HL.out]; omega)]; rfl
        rw [← hout.out, h0, List.append_nil]
      rw [HE.out] at hown
      clear HE hout
      go_wp2_with fail
      go_ret
      exact ⟨_, rfl, hown, hbel⟩
theorem rgreedy_any (s : ByteArray) (w : World) (hs : s.size ≤ 4096) :
    Calls Try.prog 33 #[.string s] w fun e w' => ∃ v, e = .returned v ∧ w'.ownsRow w.heap.size 79 3 v (Lz.greedyR s.data.toList).length (rowC (Lz.greedyR s.data.toList)) ∧ Below w.heap.size w w' :=
  rgreedy_of s w hs s.data.toList (Lib.size_eq s).symm (byte_get s)
end Go.Proofs.Ytgdkfaphbbdnbaa

namespace Go.Proofs.Ytgdkfaphbbdnbaa
open Go.RowKit
set_option maxRecDepth 4000

theorem own_cells (w : World) (l : List UInt8) (hl : l.length ≤ 1000) : (w.alloc (.cells (l.map B).toArray 5)).ownsRow w.heap.size 5 1 (.slice (some ⟨w.heap.size, 0, none⟩) l.length l.length) l.length (l.map B) :=
  ⟨by simp, .inr ⟨w.heap.size, l.length, (l.map B).toArray, rfl, Nat.le_refl _, heap_alloc_new w _, Nat.le_refl _, by unfold maxLen; omega, by simp, by simp [List.take_of_length_le]⟩⟩
theorem str_one (w : World) (b : UInt8) : (convert 26 9 (.slice (some ⟨w.heap.size, 0, none⟩) 1 1)).run Try.prog (w.alloc (.cells #[.int .u8 b.toNat] 5)) = .ok (.string ⟨#[b]⟩) (w.alloc (.cells #[.int .u8 b.toNat] 5)) :=
  run_str (own_cells w [b] (by simp))
theorem str_two (w : World) (a b : UInt8) : (convert 26 9 (.slice (some ⟨w.heap.size, 0, none⟩) 2 2)).run Try.prog (w.alloc (.cells #[.int .u8 a.toNat, .int .u8 b.toNat] 5)) = .ok (.string ⟨#[a, b]⟩) (w.alloc (.cells #[.int .u8 a.toNat, .int .u8 b.toNat] 5)) :=
  run_str (own_cells w [a, b] (by simp))
theorem str_three (w : World) (a b c : UInt8) : (convert 26 9 (.slice (some ⟨w.heap.size, 0, none⟩) 3 3)).run Try.prog (w.alloc (.cells #[.int .u8 a.toNat, .int .u8 b.toNat, .int .u8 c.toNat] 5)) = .ok (.string ⟨#[a, b, c]⟩) (w.alloc (.cells #[.int .u8 a.toNat, .int .u8 b.toNat, .int .u8 c.toNat] 5)) :=
  run_str (own_cells w [a, b, c] (by simp))

set_option maxHeartbeats 1000000 in
theorem text_any (t : Lz.Tk) (w : World) (hg : Lz.Good t) :
    Calls Try.prog 61 #[tokV t.raw] w fun e w' => e = .returned (.string ⟨t.text.toArray⟩) ∧ Below w.heap.size w w' := by
  obtain ⟨b, n, d⟩ := t
  unfold tokV
  dsimp only [Lz.Tk.raw]
  by_cases hn : n = 0
  · subst hn
    have hs := str_two (w.alloc (.cells #[.int .u8 b.toNat, .int .i64 0, .int .i64 d] 79)) 0 b
    rw [show ((0 : UInt8).toNat : Int) = 0 from rfl, World.size_alloc] at hs
    go_enter Try.func61, Try.ntmps61
    go_wp2_with fail
    go_ret
    exact ⟨rfl, ((Below.refl _ w).alloc (Nat.le_refl _) _).alloc (by simp) _⟩
  · have hg : n ≤ 255 ∧ 1 ≤ d ∧ d ≤ 1024 := by rcases hg with ⟨h1, _⟩ | ⟨_, _, h1, h2, h3⟩ <;> dsimp only at * <;> omega
    obtain ⟨g1, g2, g3⟩ := hg
    have hs := str_three (w.alloc (.cells #[.int .u8 b.toNat, .int .i64 n, .int .i64 d] 79)) (UInt8.ofNat n) (UInt8.ofNat (d % 256)) (UInt8.ofNat (d / 256))
    rw [show ((UInt8.ofNat n).toNat : Int) = n from by simp; omega, show ((UInt8.ofNat (d % 256)).toNat : Int) = (d : Int) % 256 from by simp, show ((UInt8.ofNat (d / 256)).toNat : Int) = (d : Int) / 256 from by simp; omega, World.size_alloc] at hs
    have hq : ((n : Int) == 0) = false := by rw [beq_eq_false_iff_ne]; omega
    have HT : Hid ((Lz.Tk.mk b n d).text = [UInt8.ofNat n, UInt8.ofNat (d % 256), UInt8.ofNat (d / 256)]) := if_neg hn
    have r1 : Int.tmod (d : Int) 256 = (d : Int) % 256 := Int.tmod_eq_emod_of_nonneg (by omega)
    have r2 : Int.tdiv (d : Int) 256 = (d : Int) / 256 := Int.tdiv_eq_ediv_of_nonneg (by omega)
    generalize (Lz.Tk.mk b n d).text = T at *
    clear hn
    go_enter Try.func61, Try.ntmps61
    go_wp2_with fail
    go_ret
    exact ⟨by rw [HT.out]; rfl, ((Below.refl _ w).alloc (Nat.le_refl _) _).alloc (by simp) _⟩
set_option maxHeartbeats 1000000 in
theorem texts_in (v : Value) (l : List Lz.Tr) (F : Nat → List UInt8) (w : World) (h : Toks w v l) (hc : Lz.chk l = 0) (hF0 : F 0 = [])
    (hF : ∀ k (h : k < l.length), F (k + 1) = F k ++ l[k].tok.text) (hFl : ∀ k, k ≤ l.length → (F k).length ≤ 3 * k) :
    Calls Try.prog 32 #[v] w fun e w' => e = .returned (.string ⟨(F l.length).toArray⟩) ∧ Below w.heap.size w w' := by
  obtain ⟨hl, hf⟩ := Lz.chk_zero hc
  have HF : Hid (∀ t ∈ l, t.form) := hf
  have HF0 : Hid (F 0 = []) := hF0
  have HFS : Hid (∀ k (h : k < l.length), F (k + 1) = F k ++ l[k].tok.text) := hF
  have HFL : Hid (∀ k, k ≤ l.length → (F k).length ≤ 3 * k) := hFl
  have HT : Hid (Toks w v l) := h
  obtain ⟨a, c, rfl⟩ := h.slice
  clear hf hc h hF0 hF hFl
  go_enter Try.func32, Try.ntmps32
  go_wp2_with fail
  go_loopw [3, 8] (fun v i wr => ∃ (k : Nat), k ≤ l.length ∧ i = .int .i64 k ∧ v = .string ⟨(F k).toArray⟩ ∧ Below w.heap.size w wr) (fun _ i _ => l.length - (intOf i).toNat)
  case atStart => exact ⟨0, by omega, rfl, by rw [HF0.out], Below.refl _ _⟩
  case round =>
    obtain ⟨k, hkl, rfl, rfl, hbel⟩ := hrel
    have hFk := HFL.out k hkl
    by_cases hlt : k < l.length
    · obtain ⟨bk, o, rfl, _, hbk, c0, c1, c2⟩ := (HT.out.below (Nat.le_refl _) hbel).get k hlt
      obtain ⟨hraw, hgood⟩ := Lz.Tr.tok_raw (HF.out l[k] (List.getElem_mem hlt))
      have HE : Hid (F (k + 1) = F k ++ l[k].tok.text) := HFS.out k hlt
      generalize l[k] = t at *
      generalize t.tok = u at *
      subst hraw
      have hte := fun V => text_any u V hgood
      have htl := Lz.text_length u
      generalize u.text = tx at *
      obtain ⟨b, n, d⟩ := u
      unfold tokV at hte
      dsimp only [Lz.Tk.raw] at c0 c1 c2 hte
      generalize hFe : F k = out at *
      have hbs := hbel.size
      have hcat : ∀ W : World, (Op.stringOp .add ⟨out.toArray⟩ ⟨tx.toArray⟩).run Try.prog W = .ok (.string ⟨(out ++ tx).toArray⟩) W := fun W => run_string_add_lists W _ _ (by omega) (by omega)
      clear hFe
      go_wp2_with fail
      refine (hte _).mono ?_
      rintro e w2 ⟨rfl, hb2⟩
      have HB2 : Hid (Below w.heap.size w w2) := (hbel.alloc hbs _).trans (hb2.mono (by simp; omega))
      clear hte hb2 hbel c0 c1 c2
      go_wp2_with fail
      go_roundw
      case rel => exact ⟨k + 1, by omega, by go_num, by rw [HE.out], HB2.out⟩
      case measure => simp only [intOf]; omega
    · obtain rfl : k = l.length := by omega
      go_wp2_with fail
      go_ret
      exact ⟨rfl, hbel⟩
theorem texts_any (v : Value) (l : List Lz.Tr) (w : World) (h : Toks w v l) (hc : Lz.chk l = 0) :
    Calls Try.prog 32 #[v] w fun e w' => e = .returned (.string ⟨(Lz.packd l).toArray⟩) ∧ Below w.heap.size w w' := by
  unfold Lz.packd
  rw [if_pos hc]
  have := texts_in v l (fun k => Lz.pack ((l.take k).map Lz.Tr.tok)) w h hc rfl (fun k hk => ?_) (fun k hk => ?_)
  · rw [List.take_length] at this
    exact this
  · show Lz.pack _ = Lz.pack _ ++ _
    rw [List.take_succ_eq_append_getElem hk, List.map_append, ← Lz.pack_snoc]
    rfl
  · refine Nat.le_trans (Lz.pack_length _) ?_
    rw [List.length_map, List.length_take]
    omega
end Go.Proofs.Ytgdkfaphbbdnbaa
