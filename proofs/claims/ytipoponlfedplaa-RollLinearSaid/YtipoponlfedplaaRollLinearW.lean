/-
  The walk of lumkeep.RollLinear: it returns true.
-/
import Derived.Test.YtipoponlfedplaaRollLast
import Derived.Test.YtipoponlfedplaaQuietSince
import Derived.Deep.OwnRows
namespace Go.Proofs.Ytipoponlfedplaa
open Go.RowKit

/-- what lies in cell j when k bytes have been written -/
def xcell (s t : ByteArray) (k j : Nat) : Value := .int .u8 (if j < k then ((s.data.toList.getD j 0 ^^^ t.data.toList.getD j 0).toNat : Int) else 0)
theorem xcell_step (s t : ByteArray) (k : Nat) {n : Nat} : ∀ j, j < n → (if j = k then xcell s t (k + 1) k else xcell s t k j) = xcell s t (k + 1) j := by
  intro j _
  by_cases e : j = k
  · rw [if_pos e, e]
  · rw [if_neg e, xcell, xcell]
    by_cases h : j < k
    · rw [if_pos h, if_pos (by omega)]
    · rw [if_neg h, if_neg (by omega)]
theorem getD_at (s : ByteArray) (k : Nat) (h : k < s.size) : s.data.toList.getD k 0 = s[k] := by
  rw [List.getD_eq_getElem?_getD, List.getElem?_eq_getElem (by simpa using h)]; rfl
theorem xcell_new (s t : ByteArray) (k : Nat) (h0 : k < s.size) (h1 : k < t.size) : xcell s t (k + 1) k = .int .u8 ((s[k].toNat ^^^ t[k].toNat : Nat) : Int) := by
  rw [xcell, if_pos (by omega), getD_at s k h0, getD_at t k h1, UInt8.toNat_xor]
/-- the sums of the bytes -/
def xlist (s t : ByteArray) (n : Nat) : List UInt8 := List.zipWith (fun a b => a ^^^ b) (s.data.toList.take n) (t.data.toList.take n)
theorem xlist_length (s t : ByteArray) (n : Nat) (h0 : n ≤ s.size) (h1 : n ≤ t.size) : (xlist s t n).length = n := by
  rw [xlist, List.length_zipWith, List.length_take, List.length_take, ← Lib.size_eq, ← Lib.size_eq]; omega
theorem xlist_get (s t : ByteArray) (n j : Nat) (h0 : n ≤ s.size) (h1 : n ≤ t.size) (hj : j < n) : xcell s t n j = B ((xlist s t n)[j]'(by rw [xlist_length s t n h0 h1]; exact hj)) := by
  rw [xcell, if_pos hj, getD_at s j (by omega), getD_at t j (by omega), B]
  simp only [xlist, List.getElem_zipWith, List.getElem_take]
  rfl
theorem xlist_sum (s t : ByteArray) (n : Nat) (h0 : n ≤ s.size) (h1 : n ≤ t.size) : Rl.ofL (xlist s t n) = Rl.ofL (s.data.toList.take n) ^^^ Rl.ofL (t.data.toList.take n) :=
  Rl.ofL_xor _ _ (by rw [List.length_take, List.length_take, ← Lib.size_eq, ← Lib.size_eq]; omega)
theorem xlist_back (s t : ByteArray) (n G cap : Nat) (w : World) (h0 : n ≤ s.size) (h1 : n ≤ t.size) (h : ∀ j, j < n → w.cell? ⟨G, j, none⟩ = some (xcell s t n j)) :
    (convert 39 9 (.slice (some ⟨G, 0, none⟩) n cap)).run Try.prog w = .ok (.string ⟨(xlist s t n).toArray⟩) w := by
  have hl := xlist_length s t n h0 h1
  have := run_convert_bytes_back w 39 9 5 ⟨G, 0, none⟩ cap (xlist s t n) (P := Try.prog) (by kernel_rfl) (by kernel_rfl) (by kernel_rfl) (by
    intro j hj
    have e : (⟨G, 0, none⟩ : Addr).add j = ⟨G, j, none⟩ := by unfold Addr.add; split <;> simp_all
    rw [e, h j (by omega), xlist_get s t n j h0 h1 (by omega)]
    rfl)
  rw [hl] at this
  exact this
theorem of_ab : Rl.ofL [97, 98] = 24930 := by decide +kernel
theorem extract_all (s : ByteArray) : s.extract 0 s.size = s := by simp
theorem extract_take (s : ByteArray) (n : Nat) : (s.extract 0 n).data.toList = s.data.toList.take n := by
  rw [Lib.extract_data]; simp
theorem xor_at (s t : ByteArray) (k : Nat) (h0 : k < s.size) (h1 : k < t.size) : bits .xor .u8 (s[k].toNat : Int) (t[k].toNat : Int) = ((s[k] ^^^ t[k]).toNat : Int) := by
  rw [u8_xor_nat _ _ s[k].toNat_lt t[k].toNat_lt, UInt8.toNat_xor]

set_option maxHeartbeats 1000000 in
theorem rollLinear_walk (a0 : ByteArray) (a1 : ByteArray) (z0 : a0.size ≤ 140737488351232) (z1 : a1.size ≤ 140737488351232) (w : World) :
    Calls Try.prog 7 #[.string a0, .string a1] w fun e w' => e = .returned (.bool true) ∧ Below w.heap.size w w' := by
  go_enter Try.func7, Try.ntmps7
  by_cases h : a1.size < a0.size
  · have hmk := run_make_row' (P := Try.prog) 39 5 (.int .u8 0) 1 (by kernel_rfl) info_u8 rfl .i64 .i64 a1.size (by omega) (by omega)
    have HR0 : Hid ((w.alloc (.cells (madeCells #[.int .u8 0] a1.size) 5)).rowIs w.heap.size 5 a1.size (xcell a0 a1 0)) := (World.rowIs_made w (.int .u8 0) a1.size 5).congr (fun j _ => by rw [xcell, if_neg (by omega)])
    go_wp2_with fail
    go_loopw [17] (fun i wr => ∃ k : Nat, k ≤ a1.size ∧ i = .int .i64 k ∧ Hid (wr.rowIs w.heap.size 5 a1.size (xcell a0 a1 k)) ∧ Hid (Below w.heap.size w wr)) (fun i _ => a1.size - (intOf i).toNat)
    case atStart => exact ⟨0, Nat.zero_le _, rfl, HR0, (Below.refl _ w).alloc (Nat.le_refl _) _⟩
    case round =>
      obtain ⟨k, hk, rfl, hr, hb⟩ := hrel
      clear HR0 hmk
      by_cases hlt : k < a1.size
      · have hk0 : k < a0.size := by omega
        have hk1 : k < a1.size := by omega
        have hck := hr.out.cell hlt
        have hfk := hr.out.frozen k
        have hx := xor_at a0 a1 k hk0 hk1
        rw [xcell] at hck
        have HS : Hid ((wr.setCell ⟨w.heap.size, k, none⟩ (xcell a0 a1 (k + 1) k)).rowIs w.heap.size 5 a1.size (xcell a0 a1 (k + 1))) := (hr.out.set k _).congr (xcell_step a0 a1 k)
        have HX : Hid (xcell a0 a1 (k + 1) k = .int .u8 ((a0[k].toNat ^^^ a1[k].toNat : Nat) : Int)) := xcell_new a0 a1 k hk0 hk1
        go_wp2_with fail
        go_region
        go_wp2_with fail
        go_roundw
        case rel => exact ⟨k + 1, by omega, by go_num, by rw [← HX.out]; exact HS.out.drew, (hb.out.setCell (Nat.le_refl _) _).drew⟩
        case measure => simp only [intOf]; omega
      · obtain rfl : k = a1.size := by omega
        obtain ⟨T, hT⟩ : ∃ T : ByteArray, T = ⟨(xlist a0 a1 a1.size).toArray⟩ := ⟨_, rfl⟩
        have hg := hr.out.lt
        have hst : ∀ V : Since wr.heap.size wr, (convert 39 9 (.slice (some ⟨w.heap.size, 0, none⟩) a1.size a1.size)).run Try.prog V.val = .ok (.string T) V.val := by
          rintro ⟨V, hV⟩
          rw [hT]
          exact xlist_back a0 a1 a1.size w.heap.size _ V (by omega) (by omega) (fun j hj => (hV.cell (p := ⟨w.heap.size, j, none⟩) hg).trans (hr.out.cell hj))
        have hTs : T.size = a1.size := by rw [hT, Lib.size_eq]; exact xlist_length a0 a1 a1.size (by omega) (by omega)
        have hsum := xlist_sum a0 a1 a1.size (by omega) (by omega)
        rw [← extract_take, ← extract_take] at hsum
        have eT := fun V => of_any T V (by omega)
        have e0 := fun V => of_any (a0.extract 0 a1.size) V (by rw [ByteArray.size_extract]; omega)
        have e1 := fun V => of_any (a1.extract 0 a1.size) V (by rw [ByteArray.size_extract]; omega)
        have eA := fun V => of_any ⟨#[97, 98]⟩ V (by decide)
        rw [show (⟨#[97, 98]⟩ : ByteArray).data.toList = [97, 98] from rfl, of_ab] at eA
        rw [hT] at eT
        rw [show (⟨(xlist a0 a1 a1.size).toArray⟩ : ByteArray).data.toList = xlist a0 a1 a1.size from rfl, ← hT] at eT
        have l0 := Rl.ofL_lt (a0.extract 0 a1.size).data.toList
        have l1 := Rl.ofL_lt (a1.extract 0 a1.size).data.toList
        generalize Rl.ofL (xlist a0 a1 a1.size) = nU at *
        generalize Rl.ofL (a0.extract 0 a1.size).data.toList = n0 at *
        generalize Rl.ofL (a1.extract 0 a1.size).data.toList = n1 at *
        have hx : bits .xor .u32 (n0 : Int) (n1 : Int) = (nU : Int) := by rw [u32_xor_nat n0 n1 (by omega) (by omega), hsum]
        have hne : Nonempty (Since wr.heap.size wr) := ⟨⟨wr, Below.refl _ _⟩⟩
        have hb' := hb.out
        rw [extract_all] at e1
        clear hsum hT
        go_wp2_with fail
        refine wp_region_since (B := wr.heap.size) (W0 := wr) (by kernel_rfl) (by kernel_rfl) (Below.refl _ _) ?_
        repeat (go_big_quiet_step (fail))
        go_big_quiet_step (exact quiet_since _ (eA _))
        repeat (go_big_quiet_step (fail))
        go_big_quiet_step (exact quiet_since _ (eT _))
        repeat (go_big_quiet_step (fail))
        go_big_quiet_step (exact quiet_since _ (e0 _))
        repeat (go_big_quiet_step (fail))
        go_big_quiet_step (exact quiet_since _ (e1 _))
        repeat (go_big_quiet_step (fail))
        refine wpQuiet_nil ?_
        rintro w2 ⟨Y, rfl⟩
        have hY := Y.property
        go_wp2_with fail
        go_ret
        exact ⟨rfl, hb'.trans (hY.mono hb'.size)⟩
  · have hmk := run_make_row' (P := Try.prog) 39 5 (.int .u8 0) 1 (by kernel_rfl) info_u8 rfl .i64 .i64 a0.size (by omega) (by omega)
    have HR0 : Hid ((w.alloc (.cells (madeCells #[.int .u8 0] a0.size) 5)).rowIs w.heap.size 5 a0.size (xcell a0 a1 0)) := (World.rowIs_made w (.int .u8 0) a0.size 5).congr (fun j _ => by rw [xcell, if_neg (by omega)])
    go_wp2_with fail
    go_loopw [17] (fun i wr => ∃ k : Nat, k ≤ a0.size ∧ i = .int .i64 k ∧ Hid (wr.rowIs w.heap.size 5 a0.size (xcell a0 a1 k)) ∧ Hid (Below w.heap.size w wr)) (fun i _ => a0.size - (intOf i).toNat)
    case atStart => exact ⟨0, Nat.zero_le _, rfl, HR0, (Below.refl _ w).alloc (Nat.le_refl _) _⟩
    case round =>
      obtain ⟨k, hk, rfl, hr, hb⟩ := hrel
      clear HR0 hmk
      by_cases hlt : k < a0.size
      · have hk0 : k < a0.size := by omega
        have hk1 : k < a1.size := by omega
        have hck := hr.out.cell hlt
        have hfk := hr.out.frozen k
        have hx := xor_at a0 a1 k hk0 hk1
        rw [xcell] at hck
        have HS : Hid ((wr.setCell ⟨w.heap.size, k, none⟩ (xcell a0 a1 (k + 1) k)).rowIs w.heap.size 5 a0.size (xcell a0 a1 (k + 1))) := (hr.out.set k _).congr (xcell_step a0 a1 k)
        have HX : Hid (xcell a0 a1 (k + 1) k = .int .u8 ((a0[k].toNat ^^^ a1[k].toNat : Nat) : Int)) := xcell_new a0 a1 k hk0 hk1
        go_wp2_with fail
        go_region
        go_wp2_with fail
        go_roundw
        case rel => exact ⟨k + 1, by omega, by go_num, by rw [← HX.out]; exact HS.out.drew, (hb.out.setCell (Nat.le_refl _) _).drew⟩
        case measure => simp only [intOf]; omega
      · obtain rfl : k = a0.size := by omega
        obtain ⟨T, hT⟩ : ∃ T : ByteArray, T = ⟨(xlist a0 a1 a0.size).toArray⟩ := ⟨_, rfl⟩
        have hg := hr.out.lt
        have hst : ∀ V : Since wr.heap.size wr, (convert 39 9 (.slice (some ⟨w.heap.size, 0, none⟩) a0.size a0.size)).run Try.prog V.val = .ok (.string T) V.val := by
          rintro ⟨V, hV⟩
          rw [hT]
          exact xlist_back a0 a1 a0.size w.heap.size _ V (by omega) (by omega) (fun j hj => (hV.cell (p := ⟨w.heap.size, j, none⟩) hg).trans (hr.out.cell hj))
        have hTs : T.size = a0.size := by rw [hT, Lib.size_eq]; exact xlist_length a0 a1 a0.size (by omega) (by omega)
        have hsum := xlist_sum a0 a1 a0.size (by omega) (by omega)
        rw [← extract_take, ← extract_take] at hsum
        have eT := fun V => of_any T V (by omega)
        have e0 := fun V => of_any (a0.extract 0 a0.size) V (by rw [ByteArray.size_extract]; omega)
        have e1 := fun V => of_any (a1.extract 0 a0.size) V (by rw [ByteArray.size_extract]; omega)
        have eA := fun V => of_any ⟨#[97, 98]⟩ V (by decide)
        rw [show (⟨#[97, 98]⟩ : ByteArray).data.toList = [97, 98] from rfl, of_ab] at eA
        rw [hT] at eT
        rw [show (⟨(xlist a0 a1 a0.size).toArray⟩ : ByteArray).data.toList = xlist a0 a1 a0.size from rfl, ← hT] at eT
        have l0 := Rl.ofL_lt (a0.extract 0 a0.size).data.toList
        have l1 := Rl.ofL_lt (a1.extract 0 a0.size).data.toList
        generalize Rl.ofL (xlist a0 a1 a0.size) = nU at *
        generalize Rl.ofL (a0.extract 0 a0.size).data.toList = n0 at *
        generalize Rl.ofL (a1.extract 0 a0.size).data.toList = n1 at *
        have hx : bits .xor .u32 (n0 : Int) (n1 : Int) = (nU : Int) := by rw [u32_xor_nat n0 n1 (by omega) (by omega), hsum]
        have hne : Nonempty (Since wr.heap.size wr) := ⟨⟨wr, Below.refl _ _⟩⟩
        have hb' := hb.out
        rw [extract_all] at e0
        clear hsum hT
        go_wp2_with fail
        refine wp_region_since (B := wr.heap.size) (W0 := wr) (by kernel_rfl) (by kernel_rfl) (Below.refl _ _) ?_
        repeat (go_big_quiet_step (fail))
        go_big_quiet_step (exact quiet_since _ (eA _))
        repeat (go_big_quiet_step (fail))
        go_big_quiet_step (exact quiet_since _ (eT _))
        repeat (go_big_quiet_step (fail))
        go_big_quiet_step (exact quiet_since _ (e0 _))
        repeat (go_big_quiet_step (fail))
        go_big_quiet_step (exact quiet_since _ (e1 _))
        repeat (go_big_quiet_step (fail))
        refine wpQuiet_nil ?_
        rintro w2 ⟨Y, rfl⟩
        have hY := Y.property
        go_wp2_with fail
        go_ret
        exact ⟨rfl, hb'.trans (hY.mono hb'.size)⟩
end Go.Proofs.Ytipoponlfedplaa
