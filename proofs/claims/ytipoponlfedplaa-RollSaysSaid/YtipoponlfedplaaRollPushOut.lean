/-
  What Push of package roll answers where it refuses.
-/
import Derived.Test.YtipoponlfedplaaRollCells
import Derived.Deep.Cut
namespace Go.Proofs.Ytipoponlfedplaa
open Go.RowKit

theorem z18_eq : Z18 = (rollCells (List.replicate 16 0) 0 0).toArray := rfl
theorem z18_one : Z18.all (·.oneCell') = true := by
  rw [z18_eq]; exact rollCells_one _ _ _
theorem RS.zero {A G : Nat} {w W : World} {l : List UInt8} {i : Int} {o : Nat} (h : RS A G w W l i o) : ∃ (zs : Array Value) (W2 : World), Hid (Z18 = zs) ∧ W.there (G + 1) 0 zs.size ∧
    (Try.prog.info? 25).map (·.size) = some zs.size ∧ zs.all (·.oneCell') = true ∧ W.setCells (G + 1) 0 zs.toList = W2 ∧ Below A w W2 ∧ (loadVar 25 ⟨G + 1, 0, none⟩).run Try.prog W2 = .ok (.agg zs) W2 := by
  refine ⟨Z18, _, rfl, h.res, info_roll, z18_one, rfl, below_setCells (by have := h.low; omega) _ _ _ h.bel, ?_⟩
  exact run_loadVar_mid _ (G + 1) 0 25 Z18.toList _ (World.rangeAt_setCells_same W (G + 1) 0 _ h.res) Try.underlying25 rfl info_roll

set_option maxHeartbeats 1000000 in
theorem push_out_low (l : List UInt8) (a : Int) (o : Nat) (b : UInt8) (w : World) (hl : l.length = 16) (h1 : a < 0) :
    Calls Try.prog 8 #[.agg (rollCells l a o).toArray, B b] w fun e w' => e = .returned (.tuple #[.agg Z18, .int .i64 1]) ∧ Below w.heap.size w w' := by
  have hlen := rollCells_length hl a o
  have HS : Hid (RS w.heap.size w.heap.size w ((w.alloc (.cells (rollCells l a o).toArray 25)).alloc (.cells Z18 25)) l a o) := RS.start l a o w hl
  go_enter Try.func8, Try.ntmps8
  go_upto_region 1 with fail
  dsimp only [Z18] at HS
  generalize (w.alloc (.cells (rollCells l a o).toArray 25)).alloc (Obj.cells #[.int .u8 0, .int .u8 0, .int .u8 0, .int .u8 0, .int .u8 0, .int .u8 0, .int .u8 0, .int .u8 0, .int .u8 0, .int .u8 0, .int .u8 0, .int .u8 0, .int .u8 0, .int .u8 0, .int .u8 0, .int .u8 0, .int .i64 0, .int .u32 0] 25) = W1 at HS ⊢
  have c16 := HS.out.c16
  have c17 := HS.out.c17
  obtain ⟨zs, W2, HZ, hres, hinf, hall, hW2, hst, hlv⟩ := HS.out.zero
  go_upto_region 2 with fail
  refine wp_region_lit ?_
  refine wpList_build rfl 25 #[] rfl (by kernel_rfl) ?_
  rw [show ((Try.prog.built 25 _).getD #[]) = Z18 from by kernel_rfl, HZ.out]
  refine wpList_store_mid rfl 25 (.tmp 4) (.tmp 20) rfl (w.heap.size + 1) 0 zs rfl rfl hres hinf hall ?_
  rw [hW2]
  clear hW2 hres hinf hall HS
  go_wp2_with fail
  refine bodyPost_ret (v := .tuple #[.agg zs, .int .i64 1]) ?_ rfl ⟨?_, hst⟩
  · simp [results, asAddr, hlv]
  · show Ending.returned (.tuple #[.agg zs, .int .i64 1]) = .returned (.tuple #[.agg Z18, .int .i64 1])
    rw [HZ.out]

set_option maxHeartbeats 1000000 in
theorem push_out_high (l : List UInt8) (a : Int) (o : Nat) (b : UInt8) (w : World) (hl : l.length = 16) (h1 : 16 ≤ a) :
    Calls Try.prog 8 #[.agg (rollCells l a o).toArray, B b] w fun e w' => e = .returned (.tuple #[.agg Z18, .int .i64 1]) ∧ Below w.heap.size w w' := by
  have hlen := rollCells_length hl a o
  have HS : Hid (RS w.heap.size w.heap.size w ((w.alloc (.cells (rollCells l a o).toArray 25)).alloc (.cells Z18 25)) l a o) := RS.start l a o w hl
  go_enter Try.func8, Try.ntmps8
  go_upto_region 1 with fail
  dsimp only [Z18] at HS
  generalize (w.alloc (.cells (rollCells l a o).toArray 25)).alloc (Obj.cells #[.int .u8 0, .int .u8 0, .int .u8 0, .int .u8 0, .int .u8 0, .int .u8 0, .int .u8 0, .int .u8 0, .int .u8 0, .int .u8 0, .int .u8 0, .int .u8 0, .int .u8 0, .int .u8 0, .int .u8 0, .int .u8 0, .int .i64 0, .int .u32 0] 25) = W1 at HS ⊢
  have c16 := HS.out.c16
  have c17 := HS.out.c17
  obtain ⟨zs, W2, HZ, hres, hinf, hall, hW2, hst, hlv⟩ := HS.out.zero
  go_upto_region 2 with fail
  refine wp_region_lit ?_
  refine wpList_build rfl 25 #[] rfl (by kernel_rfl) ?_
  rw [show ((Try.prog.built 25 _).getD #[]) = Z18 from by kernel_rfl, HZ.out]
  refine wpList_store_mid rfl 25 (.tmp 4) (.tmp 20) rfl (w.heap.size + 1) 0 zs rfl rfl hres hinf hall ?_
  rw [hW2]
  clear hW2 hres hinf hall HS
  go_wp2_with fail
  refine bodyPost_ret (v := .tuple #[.agg zs, .int .i64 1]) ?_ rfl ⟨?_, hst⟩
  · simp [results, asAddr, hlv]
  · show Ending.returned (.tuple #[.agg zs, .int .i64 1]) = .returned (.tuple #[.agg Z18, .int .i64 1])
    rw [HZ.out]

set_option maxHeartbeats 1000000 in
theorem push_out_sum (l : List UInt8) (a : Int) (o : Nat) (b : UInt8) (w : World) (hl : l.length = 16) (h1 : 0 ≤ a) (h2 : a < 16) (h3 : ((o : Int) / 2147483648 != 0) = true) :
    Calls Try.prog 8 #[.agg (rollCells l a o).toArray, B b] w fun e w' => e = .returned (.tuple #[.agg Z18, .int .i64 1]) ∧ Below w.heap.size w w' := by
  have hlen := rollCells_length hl a o
  have HS : Hid (RS w.heap.size w.heap.size w ((w.alloc (.cells (rollCells l a o).toArray 25)).alloc (.cells Z18 25)) l a o) := RS.start l a o w hl
  go_enter Try.func8, Try.ntmps8
  go_upto_region 1 with fail
  dsimp only [Z18] at HS
  generalize (w.alloc (.cells (rollCells l a o).toArray 25)).alloc (Obj.cells #[.int .u8 0, .int .u8 0, .int .u8 0, .int .u8 0, .int .u8 0, .int .u8 0, .int .u8 0, .int .u8 0, .int .u8 0, .int .u8 0, .int .u8 0, .int .u8 0, .int .u8 0, .int .u8 0, .int .u8 0, .int .u8 0, .int .i64 0, .int .u32 0] 25) = W1 at HS ⊢
  have c16 := HS.out.c16
  have c17 := HS.out.c17
  obtain ⟨zs, W2, HZ, hres, hinf, hall, hW2, hst, hlv⟩ := HS.out.zero
  go_upto_region 2 with fail
  refine wp_region_lit ?_
  refine wpList_build rfl 25 #[] rfl (by kernel_rfl) ?_
  rw [show ((Try.prog.built 25 _).getD #[]) = Z18 from by kernel_rfl, HZ.out]
  refine wpList_store_mid rfl 25 (.tmp 4) (.tmp 20) rfl (w.heap.size + 1) 0 zs rfl rfl hres hinf hall ?_
  rw [hW2]
  clear hW2 hres hinf hall HS
  go_wp2_with fail
  refine bodyPost_ret (v := .tuple #[.agg zs, .int .i64 1]) ?_ rfl ⟨?_, hst⟩
  · simp [results, asAddr, hlv]
  · show Ending.returned (.tuple #[.agg zs, .int .i64 1]) = .returned (.tuple #[.agg Z18, .int .i64 1])
    rw [HZ.out]

theorem push_out (l : List UInt8) (a : Int) (o : Nat) (b : UInt8) (w : World) (hl : l.length = 16) (hbad : a < 0 ∨ 16 ≤ a ∨ 2147483648 ≤ o) :
    Calls Try.prog 8 #[.agg (rollCells l a o).toArray, B b] w fun e w' => e = .returned (.tuple #[.agg Z18, .int .i64 1]) ∧ Below w.heap.size w w' := by
  by_cases h1 : a < 0
  · exact push_out_low l a o b w hl h1
  · by_cases h2 : 16 ≤ a
    · exact push_out_high l a o b w hl h2
    · exact push_out_sum l a o b w hl (by omega) (by omega) (by rw [bne_iff_ne]; omega)

set_option maxHeartbeats 1000000 in
theorem rpush_out_low (l : List UInt8) (a : Int) (o : Nat) (b : UInt8) (w : World) (hl : l.length = 16) (h1 : a < 0) :
    Calls Try.prog 9 #[.agg (rollCells l a o).toArray, B b] w fun e w' => e = .returned (.tuple #[.agg Z18, .int .i64 1]) ∧ Below w.heap.size w w' := by
  have hlen := rollCells_length hl a o
  have HS : Hid (RS w.heap.size w.heap.size w ((w.alloc (.cells (rollCells l a o).toArray 25)).alloc (.cells Z18 25)) l a o) := RS.start l a o w hl
  go_enter Try.func9, Try.ntmps9
  go_upto_region 1 with fail
  dsimp only [Z18] at HS
  generalize (w.alloc (.cells (rollCells l a o).toArray 25)).alloc (Obj.cells #[.int .u8 0, .int .u8 0, .int .u8 0, .int .u8 0, .int .u8 0, .int .u8 0, .int .u8 0, .int .u8 0, .int .u8 0, .int .u8 0, .int .u8 0, .int .u8 0, .int .u8 0, .int .u8 0, .int .u8 0, .int .u8 0, .int .i64 0, .int .u32 0] 25) = W1 at HS ⊢
  have c16 := HS.out.c16
  have c17 := HS.out.c17
  obtain ⟨zs, W2, HZ, hres, hinf, hall, hW2, hst, hlv⟩ := HS.out.zero
  go_upto_region 2 with fail
  refine wp_region_lit ?_
  refine wpList_build rfl 25 #[] rfl (by kernel_rfl) ?_
  rw [show ((Try.prog.built 25 _).getD #[]) = Z18 from by kernel_rfl, HZ.out]
  refine wpList_store_mid rfl 25 (.tmp 4) (.tmp 20) rfl (w.heap.size + 1) 0 zs rfl rfl hres hinf hall ?_
  rw [hW2]
  clear hW2 hres hinf hall HS
  go_wp2_with fail
  refine bodyPost_ret (v := .tuple #[.agg zs, .int .i64 1]) ?_ rfl ⟨?_, hst⟩
  · simp [results, asAddr, hlv]
  · show Ending.returned (.tuple #[.agg zs, .int .i64 1]) = .returned (.tuple #[.agg Z18, .int .i64 1])
    rw [HZ.out]

set_option maxHeartbeats 1000000 in
theorem rpush_out_high (l : List UInt8) (a : Int) (o : Nat) (b : UInt8) (w : World) (hl : l.length = 16) (h1 : 16 ≤ a) :
    Calls Try.prog 9 #[.agg (rollCells l a o).toArray, B b] w fun e w' => e = .returned (.tuple #[.agg Z18, .int .i64 1]) ∧ Below w.heap.size w w' := by
  have hlen := rollCells_length hl a o
  have HS : Hid (RS w.heap.size w.heap.size w ((w.alloc (.cells (rollCells l a o).toArray 25)).alloc (.cells Z18 25)) l a o) := RS.start l a o w hl
  go_enter Try.func9, Try.ntmps9
  go_upto_region 1 with fail
  dsimp only [Z18] at HS
  generalize (w.alloc (.cells (rollCells l a o).toArray 25)).alloc (Obj.cells #[.int .u8 0, .int .u8 0, .int .u8 0, .int .u8 0, .int .u8 0, .int .u8 0, .int .u8 0, .int .u8 0, .int .u8 0, .int .u8 0, .int .u8 0, .int .u8 0, .int .u8 0, .int .u8 0, .int .u8 0, .int .u8 0, .int .i64 0, .int .u32 0] 25) = W1 at HS ⊢
  have c16 := HS.out.c16
  have c17 := HS.out.c17
  obtain ⟨zs, W2, HZ, hres, hinf, hall, hW2, hst, hlv⟩ := HS.out.zero
  go_upto_region 2 with fail
  refine wp_region_lit ?_
  refine wpList_build rfl 25 #[] rfl (by kernel_rfl) ?_
  rw [show ((Try.prog.built 25 _).getD #[]) = Z18 from by kernel_rfl, HZ.out]
  refine wpList_store_mid rfl 25 (.tmp 4) (.tmp 20) rfl (w.heap.size + 1) 0 zs rfl rfl hres hinf hall ?_
  rw [hW2]
  clear hW2 hres hinf hall HS
  go_wp2_with fail
  refine bodyPost_ret (v := .tuple #[.agg zs, .int .i64 1]) ?_ rfl ⟨?_, hst⟩
  · simp [results, asAddr, hlv]
  · show Ending.returned (.tuple #[.agg zs, .int .i64 1]) = .returned (.tuple #[.agg Z18, .int .i64 1])
    rw [HZ.out]

set_option maxHeartbeats 1000000 in
theorem rpush_out_sum (l : List UInt8) (a : Int) (o : Nat) (b : UInt8) (w : World) (hl : l.length = 16) (h1 : 0 ≤ a) (h2 : a < 16) (h3 : (2147483648 : Int) ≤ (o : Int)) :
    Calls Try.prog 9 #[.agg (rollCells l a o).toArray, B b] w fun e w' => e = .returned (.tuple #[.agg Z18, .int .i64 1]) ∧ Below w.heap.size w w' := by
  have hlen := rollCells_length hl a o
  have HS : Hid (RS w.heap.size w.heap.size w ((w.alloc (.cells (rollCells l a o).toArray 25)).alloc (.cells Z18 25)) l a o) := RS.start l a o w hl
  go_enter Try.func9, Try.ntmps9
  go_upto_region 1 with fail
  dsimp only [Z18] at HS
  generalize (w.alloc (.cells (rollCells l a o).toArray 25)).alloc (Obj.cells #[.int .u8 0, .int .u8 0, .int .u8 0, .int .u8 0, .int .u8 0, .int .u8 0, .int .u8 0, .int .u8 0, .int .u8 0, .int .u8 0, .int .u8 0, .int .u8 0, .int .u8 0, .int .u8 0, .int .u8 0, .int .u8 0, .int .i64 0, .int .u32 0] 25) = W1 at HS ⊢
  have c16 := HS.out.c16
  have c17 := HS.out.c17
  obtain ⟨zs, W2, HZ, hres, hinf, hall, hW2, hst, hlv⟩ := HS.out.zero
  go_upto_region 2 with fail
  refine wp_region_lit ?_
  refine wpList_build rfl 25 #[] rfl (by kernel_rfl) ?_
  rw [show ((Try.prog.built 25 _).getD #[]) = Z18 from by kernel_rfl, HZ.out]
  refine wpList_store_mid rfl 25 (.tmp 4) (.tmp 20) rfl (w.heap.size + 1) 0 zs rfl rfl hres hinf hall ?_
  rw [hW2]
  clear hW2 hres hinf hall HS
  go_wp2_with fail
  refine bodyPost_ret (v := .tuple #[.agg zs, .int .i64 1]) ?_ rfl ⟨?_, hst⟩
  · simp [results, asAddr, hlv]
  · show Ending.returned (.tuple #[.agg zs, .int .i64 1]) = .returned (.tuple #[.agg Z18, .int .i64 1])
    rw [HZ.out]

theorem rpush_out (l : List UInt8) (a : Int) (o : Nat) (b : UInt8) (w : World) (hl : l.length = 16) (hbad : a < 0 ∨ 16 ≤ a ∨ 2147483648 ≤ o) :
    Calls Try.prog 9 #[.agg (rollCells l a o).toArray, B b] w fun e w' => e = .returned (.tuple #[.agg Z18, .int .i64 1]) ∧ Below w.heap.size w w' := by
  by_cases h1 : a < 0
  · exact rpush_out_low l a o b w hl h1
  · by_cases h2 : 16 ≤ a
    · exact rpush_out_high l a o b w hl h2
    · exact rpush_out_sum l a o b w hl (by omega) (by omega) (by omega)

end Go.Proofs.Ytipoponlfedplaa
