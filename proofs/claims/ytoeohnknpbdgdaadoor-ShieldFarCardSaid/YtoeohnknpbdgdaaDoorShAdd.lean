/-
  What weight, addTimes and multiply of package shield do.
-/
import Derived.Test.YtoeohnknpbdgdaaDoorShMem
import Derived.Deep.RegionWith
namespace Go.Proofs.YtoeohnknpbdgdaaDoor
open Go.RowKit
set_option maxRecDepth 4000

set_option maxHeartbeats 1000000 in
theorem addTimes_any (base b2 : Nat) (sv lv : Value) (s l : List Nat) (f : Nat) (w : World) (hs : Ob w base sv s) (hl : Ob w b2 lv l) (he : l.length = s.length) (hne : ∀ g, sv.ownBlock = some g → lv.ownBlock ≠ some g) (hn : s.length ≤ 4096) (bs : Fd.Bs s) (bl : Fd.Bs l) (hf : f < 256) :
    Calls Tryd.prog 22 #[sv, lv, .int .u8 f] w fun e w' => e = .returned (.tuple #[]) ∧ Ob w' base sv (Fd.addL s l f) ∧ Kept (fun k => sv.ownBlock ≠ some k) w w' := by
  obtain ⟨sa, sc, rfl⟩ := hs.len
  obtain ⟨la, lc, rfl⟩ := hl.len
  have HE : Hid (Fd.addTo s l f s.length = Fd.addL s l f) := Fd.addTo_all he.symm f
  have HB : Hid (Fd.Bs s ∧ Fd.Bs l) := ⟨bs, bl⟩
  have HN : Hid (∀ g, (Value.slice sa s.length sc).ownBlock = some g → (Value.slice la l.length lc).ownBlock ≠ some g) := hne
  have HL : Hid (Ob w b2 (.slice la l.length lc) l) := hl
  have HE2 : Hid (l.length = s.length) := he
  obtain ⟨n, hln⟩ : ∃ n, n = l.length := ⟨_, rfl⟩
  have HLn : Hid (n = l.length) := hln
  rw [← hln] at HL HN ⊢
  have hsl : s.length = n := by omega
  have hs' : Ob w base (.slice sa s.length sc) (Fd.addTo s l f 0) := by rw [Fd.addTo_zero]; exact hs
  rw [hsl] at hs' HN HE ⊢
  have HS : Hid (Ob w base (.slice sa n sc) (Fd.addTo s l f 0)) := hs'
  have hn' : n ≤ 4096 := by omega
  have HSL : Hid (s.length = n) := hsl
  clear hs hs' hl hne bs bl he hn hsl hln
  go_enter Tryd.func22, Tryd.ntmps22
  go_wp2_with fail
  go_loopw [10] (fun i wr => ∃ k : Nat, k ≤ n ∧ i = .int .i64 k ∧ Hid (Ob wr base (.slice sa n sc) (Fd.addTo s l f k)) ∧ Hid (Kept (fun k => (Value.slice sa n sc).ownBlock ≠ some k) w wr)) (fun i _ => n - (intOf i).toNat)
  case atStart => exact ⟨0, by omega, rfl, HS, Kept.refl _ _⟩
  case round =>
    clear HS
    obtain ⟨k, hk, rfl, HS, HK⟩ := hrel
    by_cases hlt : k < n
    · obtain ⟨g, c, e1, hg1, hg2⟩ := HS.out.some_ (by rw [Fd.addTo_length, HSL.out]; omega)
      have hLr := HL.out.kept HK.out (fun b hb => fun e => HN.out b e hb)
      obtain ⟨bk, c2, e2, hb1, hb2⟩ := hLr.some_ (by rw [← HLn.out]; omega)
      rw [Value.slice.injEq] at e1 e2
      obtain ⟨rfl, en1, rfl⟩ := e1
      obtain ⟨rfl, en2, rfl⟩ := e2
      clear en1 en2
      have c1 := HS.out.at_ k (by rw [Fd.addTo_length, HSL.out]; omega)
      rw [Fd.addTo_get (by rw [HSL.out]; omega)] at c1
      have c2 := hLr.at_ k (by rw [← HLn.out]; omega)
      have f1 := HS.out.frozen k (by rw [Fd.addTo_length, HSL.out]; omega)
      have b1 := Fd.bs_get HB.out.1 k
      have b2 := Fd.bs_get HB.out.2 k
      have hx := u8_xor_nat _ _ b1 (Fd.M_lt b2 f)
      have hM : ∀ W, Calls Tryd.prog 33 #[.int .u8 (l.getD k 0 : Nat), .int .u8 f] W fun e w' => e = .returned (.int .u8 (Fd.M (l.getD k 0) f : Nat)) ∧ w' = W := fun W => mul_any _ _ W b2 hf
      have HO : Hid (∀ W, W = (wr.setCell ⟨g, k, none⟩ (.int .u8 ((s.getD k 0 ^^^ Fd.M (l.getD k 0) f : Nat) : Int))).drew → Ob W base (.slice (some ⟨g, 0, none⟩) n sc) (Fd.addTo s l f (k + 1)) ∧ Kept (fun k => (Value.slice (some ⟨g, 0, none⟩) n sc).ownBlock ≠ some k) w W) := by
        rintro W rfl
        refine ⟨?_, (HK.out.setCell (a := ⟨g, k, none⟩) (fun h => h rfl) _).drew⟩
        rw [Fd.addTo_set]
        exact (HS.out.set k _ (by rw [Fd.addTo_length, HSL.out]; omega)).below (Below.refl _ _).drew
      generalize s.getD k 0 = x at *
      generalize l.getD k 0 = y at *
      generalize Fd.M y f = z at *
      clear HS HK hLr b1 b2 hg1 hg2 hb1 hb2
      go_wp2_with fail
      go_region_with (refine (hM _).mono ?_; rintro e u ⟨rfl, rfl⟩)
      all_goals
        go_wp2_with fail
        go_roundw
        case rel => exact ⟨k + 1, by omega, by go_num, (HO.out _ rfl).1, (HO.out _ rfl).2⟩
        case measure => simp only [intOf]; omega
    · obtain rfl : k = n := by omega
      rw [HE.out] at HS
      clear HL
      go_wp2_with fail
      go_end0
      exact ⟨rfl, HS.out, HK.out⟩

set_option maxHeartbeats 1000000 in
theorem multiply_any (base : Nat) (lv : Value) (l : List Nat) (f : Nat) (w : World) (hl : Ob w base lv l) (hn : l.length ≤ 4096) (bl : Fd.Bs l) (hf : f < 256) :
    Calls Tryd.prog 39 #[lv, .int .u8 f] w fun e w' => e = .returned (.tuple #[]) ∧ Ob w' base lv (Fd.mulL l f) ∧ Kept (fun k => lv.ownBlock ≠ some k) w w' := by
  obtain ⟨la, lc, rfl⟩ := hl.len
  have HE : Hid (Fd.mulTo l f l.length = Fd.mulL l f) := Fd.mulTo_all l f
  have HB : Hid (Fd.Bs l) := bl
  have hl' : Ob w base (.slice la l.length lc) (Fd.mulTo l f 0) := by rw [Fd.mulTo_zero]; exact hl
  obtain ⟨n, hln⟩ : ∃ n, n = l.length := ⟨_, rfl⟩
  have HLn : Hid (n = l.length) := hln
  rw [← hln] at hl' HE hn ⊢
  have HS : Hid (Ob w base (.slice la n lc) (Fd.mulTo l f 0)) := hl'
  clear hl' hl bl hln
  go_enter Tryd.func39, Tryd.ntmps39
  go_wp2_with fail
  go_loopw [8] (fun i wr => ∃ k : Nat, k ≤ n ∧ i = .int .i64 k ∧ Hid (Ob wr base (.slice la n lc) (Fd.mulTo l f k)) ∧ Hid (Kept (fun k => (Value.slice la n lc).ownBlock ≠ some k) w wr)) (fun i _ => n - (intOf i).toNat)
  case atStart => exact ⟨0, by omega, rfl, HS, Kept.refl _ _⟩
  case round =>
    clear HS
    obtain ⟨k, hk, rfl, HS, HK⟩ := hrel
    by_cases hlt : k < n
    · obtain ⟨g, c, e1, hg1, hg2⟩ := HS.out.some_ (by rw [Fd.mulTo_length, ← HLn.out]; omega)
      rw [Value.slice.injEq] at e1
      obtain ⟨rfl, en1, rfl⟩ := e1
      clear en1
      have c1 := HS.out.at_ k (by rw [Fd.mulTo_length, ← HLn.out]; omega)
      rw [Fd.mulTo_get (by rw [← HLn.out]; omega)] at c1
      have f1 := HS.out.frozen k (by rw [Fd.mulTo_length, ← HLn.out]; omega)
      have b2 := Fd.bs_get HB.out k
      have hM : ∀ W, Calls Tryd.prog 33 #[.int .u8 (l.getD k 0 : Nat), .int .u8 f] W fun e w' => e = .returned (.int .u8 (Fd.M (l.getD k 0) f : Nat)) ∧ w' = W := fun W => mul_any _ _ W b2 hf
      have HO : Hid (∀ W, W = (wr.setCell ⟨g, k, none⟩ (.int .u8 ((Fd.M (l.getD k 0) f : Nat) : Int))) → Ob W base (.slice (some ⟨g, 0, none⟩) n lc) (Fd.mulTo l f (k + 1)) ∧ Kept (fun k => (Value.slice (some ⟨g, 0, none⟩) n lc).ownBlock ≠ some k) w W) := by
        rintro W rfl
        refine ⟨?_, (HK.out.setCell (a := ⟨g, k, none⟩) (fun h => h rfl) _)⟩
        rw [Fd.mulTo_set]
        exact HS.out.set k _ (by rw [Fd.mulTo_length, ← HLn.out]; omega)
      generalize l.getD k 0 = y at *
      generalize Fd.M y f = z at *
      clear HS HK b2 hg1 hg2
      go_wp2_with fail
      refine (hM _).mono ?_
      rintro e u ⟨rfl, rfl⟩
      go_wp2_with fail
      go_roundw
      case rel => exact ⟨k + 1, by omega, by go_num, (HO.out _ rfl).1, (HO.out _ rfl).2⟩
      case measure => simp only [intOf]; omega
    · obtain rfl : k = n := by omega
      rw [HE.out] at HS
      go_wp2_with fail
      go_end0
      exact ⟨rfl, HS.out, HK.out⟩

theorem xor_i64_small (a b : Nat) (ha : a < 256) (hb : b < 256) : bits .xor .i64 (a : Int) (b : Int) = ((a ^^^ b : Nat) : Int) := xor_i64 a b (by omega) (by omega)
set_option maxHeartbeats 400000 in
theorem weight_any (j i : Nat) (w : World) (hj : j < 8) (hi : i < 16) :
    Calls Tryd.prog 23 #[.int .i64 j, .int .i64 i] w fun e w' => e = .returned (.int .u8 (Fd.wt j i : Nat)) ∧ w' = w := by
  have hx : bits .xor .i64 (128 + (j : Int)) (i : Int) = (((128 + j) ^^^ i : Nat) : Int) := by
    rw [show (128 : Int) + (j : Int) = ((128 + j : Nat) : Int) from by omega, xor_i64_small _ _ (by omega) (by omega)]
  have hlt : (128 + j) ^^^ i < 256 := Fd.xor_lt8 (by omega) (by omega)
  have hnz : (128 + j) ^^^ i ≠ 0 := fun e => by have := Fd.xor_zero_iff.mp e; omega
  have hI : ∀ W, Calls Tryd.prog 29 #[.int .u8 ((128 + j) ^^^ i : Nat)] W fun e w' => e = .returned (.tuple #[.int .u8 (Fd.wt j i : Nat), .int .i64 0]) ∧ w' = W := fun W => inv_any _ W hlt hnz
  generalize (128 + j) ^^^ i = x at *
  clear hnz
  generalize Fd.wt j i = z at *
  go_enter Tryd.func23, Tryd.ntmps23
  go_wp2_with fail
  refine (hI _).mono ?_
  rintro e u ⟨rfl, rfl⟩
  go_wp2_with fail
  go_ret
  exact ⟨rfl, rfl⟩
end Go.Proofs.YtoeohnknpbdgdaaDoor
