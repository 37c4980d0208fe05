/-
  What lastBytes and Of of package roll answer.
-/
import Derived.Test.YtipoponlfedplaaRollOf
import Derived.Lib.LazyBuf
namespace Go.Proofs.Ytipoponlfedplaa
open Go.RowKit

theorem lastL_small {l : List UInt8} (h : l.length ≤ 16) : Rl.lastL l = List.replicate (16 - l.length) 0 ++ l := by
  rw [Rl.lastL, List.drop_append_of_le_length (by simpa using h), List.drop_replicate]
theorem lastL_large {l : List UInt8} (h : 16 ≤ l.length) : Rl.lastL l = l.drop (l.length - 16) := by
  rw [Rl.lastL, List.drop_append, List.length_replicate, List.drop_replicate, show 16 - l.length = 0 from by omega]; rfl
theorem lastL_self {l : List UInt8} (h : l.length = 16) : Rl.lastL l = l := by
  rw [lastL_large (by omega), h]; rfl
/-- where the text begins in the array -/
def o16 (m : Nat) : Nat := if m = 0 then 0 else 16 - m
theorem slice16 (g m : Nat) (hm : m ≤ 16) (w : World) :
    (Instr.sliceAt 23 (.pointer (some ⟨g, 0, none⟩)) (some (.int .i64 (16 - (m : Int)))) none none).run Try.prog w = .ok (.slice (some ⟨g, o16 m, none⟩) m m) w := by
  have h : Try.prog.underlying 23 = some (.array 16 5) := by kernel_rfl
  have hl : Try.prog.arrayLen 23 = 16 := by kernel_rfl
  have he : Try.prog.elem 23 = 5 := by kernel_rfl
  rw [run_sliceAt_array_l (P := Try.prog) w 23 ⟨g, 0, none⟩ (by rw [hl, he]; exact h) .i64 (16 - (m : Int)) (by omega) (by rw [hl]; omega), hl, he]
  have hz : ∀ w, (Go.sizeOf 5).run Try.prog w = .ok 1 w := fun w => by go_simp
  rw [hz]
  simp only [Result.andThen, slicedAt, o16, Addr.add]
  rw [show (16 - (m : Int)).toNat = 16 - m from by omega, show 16 - (16 - m) = m from by omega]
  by_cases h0 : m = 0
  · subst h0; rfl
  · rw [if_neg (by omega), if_neg h0]
    simp
    omega
abbrev Z16 : Array Value := #[Value.int IntKind.u8 0, Value.int IntKind.u8 0, Value.int IntKind.u8 0, Value.int IntKind.u8 0, Value.int IntKind.u8 0, Value.int IntKind.u8 0, Value.int IntKind.u8 0, Value.int IntKind.u8 0, Value.int IntKind.u8 0, Value.int IntKind.u8 0, Value.int IntKind.u8 0, Value.int IntKind.u8 0, Value.int IntKind.u8 0, Value.int IntKind.u8 0, Value.int IntKind.u8 0, Value.int IntKind.u8 0]
theorem z16_cell (w : World) (t : TypeId) (j : Nat) (hj : j < 16) : (w.alloc (.cells Z16 t)).cell? ⟨w.heap.size, j, none⟩ = some (.int .u8 0) := by
  rw [cell_of_row _ w.heap.size j _ _ _ (heap_alloc_new w _)]
  rw [show Z16 = Array.replicate 16 (Value.int .u8 0) from rfl, Array.getElem?_replicate, if_pos hj]
/-- what lies in the array and around it behind the copy -/
theorem copied (u : ByteArray) (w : World) (hu : u.size ≤ 16) : ∃ W,
    (Builtin.copy_ #[39, 9] 3 #[.slice (some ⟨w.heap.size + 1, o16 u.size, none⟩) u.size u.size, .string u]).run Try.prog ((w.alloc (.cells Z16 23)).alloc (.cells Z16 23)) = .ok (.int .i64 u.size) W ∧
    (∀ j (h : j < 16), W.cell? ⟨w.heap.size + 1, j, none⟩ = some (B ((Rl.lastL u.data.toList)[j]'(by rw [Rl.lastL_length]; exact h)))) ∧ (∀ j, j < 16 → W.cell? ⟨w.heap.size, j, none⟩ = some (.int .u8 0)) ∧ (∀ j, j < 16 → W.frozen? ⟨w.heap.size, j, none⟩ = false) ∧ Below w.heap.size w W := by
  have hsz : (w.alloc (.cells Z16 23)).heap.size = w.heap.size + 1 := by simp
  have hz : ∀ w, (Go.sizeOf 5).run Try.prog w = .ok 1 w := fun w => by go_simp
  have hul : u.data.toList.length = u.size := by rw [← Lib.size_eq]
  generalize hW : (w.alloc (.cells Z16 23)).alloc (.cells Z16 23) = W0
  have c1 : ∀ j, j < 16 → W0.cell? ⟨w.heap.size + 1, j, none⟩ = some (.int .u8 0) := fun j hj => by
    have := z16_cell (w.alloc (.cells Z16 23)) 23 j hj
    rwa [hsz, hW] at this
  have c0 : ∀ j, j < 16 → W0.cell? ⟨w.heap.size, j, none⟩ = some (.int .u8 0) := fun j hj => by
    rw [← hW]
    have := z16_cell w 23 j hj
    simpa using this
  have f1 : ∀ j, W0.frozen? ⟨w.heap.size + 1, j, none⟩ = false := fun j => by rw [← hW]; simp
  have f0 : ∀ j, W0.frozen? ⟨w.heap.size, j, none⟩ = false := fun j => by rw [← hW]; simp
  have hb : Below w.heap.size w W0 := by rw [← hW]; exact ((Below.refl _ w).alloc (Nat.le_refl _) _).alloc (by simp) _
  have ho : o16 u.size + u.size ≤ 16 := by unfold o16; split <;> omega
  have hr := run_copy_string (P := Try.prog) W0 39 9 3 5 (w.heap.size + 1) (o16 u.size) u.size u.size u (by kernel_rfl) hz (Nat.le_refl _) (fun j hj => by rw [c1 _ (by omega)]; rfl) (fun j _ => f1 _)
  refine ⟨_, hr, ?_, ?_, ?_, ?_⟩
  · intro j hj
    have hlen : (u.data.toList.map fun x => Value.int .u8 (x.toNat : Int)).length = u.size := by rw [List.length_map, hul]
    have hL := lastL_small (l := u.data.toList) (by omega)
    by_cases hin : 16 - u.size ≤ j
    · have hne : o16 u.size = 16 - u.size := by unfold o16; rw [if_neg (by omega)]
      have hc := World.cell?_setCells_in (w.heap.size + 1) (u.data.toList.map fun x => Value.int .u8 (x.toNat : Int)) (o16 u.size) W0 (fun k hk => by rw [c1 _ (by omega)]; rfl) (j - (16 - u.size)) (by omega)
      rw [hne, show 16 - u.size + (j - (16 - u.size)) = j from by omega] at hc
      rw [hne, hc, List.getElem_map]
      simp only [hL, B]
      rw [List.getElem_append_right (by simp; omega)]
      simp [hul]
    · rw [World.cell?_setCells_out (w.heap.size + 1) _ _ W0 ⟨w.heap.size + 1, j, none⟩ (fun _ _ => by
        rw [hlen]; unfold o16; split <;> simp <;> omega), c1 j hj]
      simp only [hL, B]
      rw [List.getElem_append_left (by simp; omega)]
      simp
  · intro j hj
    rw [World.cell?_setCells_out (w.heap.size + 1) _ _ W0 ⟨w.heap.size, j, none⟩ (fun h _ => by simp at h), c0 j hj]
  · intro j hj
    rw [World.frozen?_setCells, f0]
  · exact below_setCells (by omega) _ _ _ hb
theorem sixteen {α : Type} (l : List α) (h : l.length = 16) : ∃ b0 b1 b2 b3 b4 b5 b6 b7 b8 b9 b10 b11 b12 b13 b14 b15, l = [b0, b1, b2, b3, b4, b5, b6, b7, b8, b9, b10, b11, b12, b13, b14, b15] := by
  match l, h with
  | [b0, b1, b2, b3, b4, b5, b6, b7, b8, b9, b10, b11, b12, b13, b14, b15], _ => exact ⟨b0, b1, b2, b3, b4, b5, b6, b7, b8, b9, b10, b11, b12, b13, b14, b15, rfl⟩

set_option maxHeartbeats 1000000 in
theorem last_small_of (b0 b1 b2 b3 b4 b5 b6 b7 b8 b9 b10 b11 b12 b13 b14 b15 : UInt8) (s : ByteArray) (w W : World) (hs : s.size ≤ 16)
    (hr : (Builtin.copy_ #[39, 9] 3 #[.slice (some ⟨w.heap.size + 1, o16 s.size, none⟩) s.size s.size, .string s]).run Try.prog ((w.alloc (.cells Z16 23)).alloc (.cells Z16 23)) = .ok (.int .i64 s.size) W) (c0 : W.cell? ⟨w.heap.size + 1, 0, none⟩ = some (.int .u8 (b0.toNat : Int))) (d0 : W.cell? ⟨w.heap.size, 0, none⟩ = some (.int .u8 0)) (f0 : W.frozen? ⟨w.heap.size, 0, none⟩ = false) (c1 : W.cell? ⟨w.heap.size + 1, 1, none⟩ = some (.int .u8 (b1.toNat : Int))) (d1 : W.cell? ⟨w.heap.size, 1, none⟩ = some (.int .u8 0)) (f1 : W.frozen? ⟨w.heap.size, 1, none⟩ = false) (c2 : W.cell? ⟨w.heap.size + 1, 2, none⟩ = some (.int .u8 (b2.toNat : Int))) (d2 : W.cell? ⟨w.heap.size, 2, none⟩ = some (.int .u8 0)) (f2 : W.frozen? ⟨w.heap.size, 2, none⟩ = false) (c3 : W.cell? ⟨w.heap.size + 1, 3, none⟩ = some (.int .u8 (b3.toNat : Int))) (d3 : W.cell? ⟨w.heap.size, 3, none⟩ = some (.int .u8 0)) (f3 : W.frozen? ⟨w.heap.size, 3, none⟩ = false) (c4 : W.cell? ⟨w.heap.size + 1, 4, none⟩ = some (.int .u8 (b4.toNat : Int))) (d4 : W.cell? ⟨w.heap.size, 4, none⟩ = some (.int .u8 0)) (f4 : W.frozen? ⟨w.heap.size, 4, none⟩ = false) (c5 : W.cell? ⟨w.heap.size + 1, 5, none⟩ = some (.int .u8 (b5.toNat : Int))) (d5 : W.cell? ⟨w.heap.size, 5, none⟩ = some (.int .u8 0)) (f5 : W.frozen? ⟨w.heap.size, 5, none⟩ = false) (c6 : W.cell? ⟨w.heap.size + 1, 6, none⟩ = some (.int .u8 (b6.toNat : Int))) (d6 : W.cell? ⟨w.heap.size, 6, none⟩ = some (.int .u8 0)) (f6 : W.frozen? ⟨w.heap.size, 6, none⟩ = false) (c7 : W.cell? ⟨w.heap.size + 1, 7, none⟩ = some (.int .u8 (b7.toNat : Int))) (d7 : W.cell? ⟨w.heap.size, 7, none⟩ = some (.int .u8 0)) (f7 : W.frozen? ⟨w.heap.size, 7, none⟩ = false) (c8 : W.cell? ⟨w.heap.size + 1, 8, none⟩ = some (.int .u8 (b8.toNat : Int))) (d8 : W.cell? ⟨w.heap.size, 8, none⟩ = some (.int .u8 0)) (f8 : W.frozen? ⟨w.heap.size, 8, none⟩ = false) (c9 : W.cell? ⟨w.heap.size + 1, 9, none⟩ = some (.int .u8 (b9.toNat : Int))) (d9 : W.cell? ⟨w.heap.size, 9, none⟩ = some (.int .u8 0)) (f9 : W.frozen? ⟨w.heap.size, 9, none⟩ = false) (c10 : W.cell? ⟨w.heap.size + 1, 10, none⟩ = some (.int .u8 (b10.toNat : Int))) (d10 : W.cell? ⟨w.heap.size, 10, none⟩ = some (.int .u8 0)) (f10 : W.frozen? ⟨w.heap.size, 10, none⟩ = false) (c11 : W.cell? ⟨w.heap.size + 1, 11, none⟩ = some (.int .u8 (b11.toNat : Int))) (d11 : W.cell? ⟨w.heap.size, 11, none⟩ = some (.int .u8 0)) (f11 : W.frozen? ⟨w.heap.size, 11, none⟩ = false) (c12 : W.cell? ⟨w.heap.size + 1, 12, none⟩ = some (.int .u8 (b12.toNat : Int))) (d12 : W.cell? ⟨w.heap.size, 12, none⟩ = some (.int .u8 0)) (f12 : W.frozen? ⟨w.heap.size, 12, none⟩ = false) (c13 : W.cell? ⟨w.heap.size + 1, 13, none⟩ = some (.int .u8 (b13.toNat : Int))) (d13 : W.cell? ⟨w.heap.size, 13, none⟩ = some (.int .u8 0)) (f13 : W.frozen? ⟨w.heap.size, 13, none⟩ = false) (c14 : W.cell? ⟨w.heap.size + 1, 14, none⟩ = some (.int .u8 (b14.toNat : Int))) (d14 : W.cell? ⟨w.heap.size, 14, none⟩ = some (.int .u8 0)) (f14 : W.frozen? ⟨w.heap.size, 14, none⟩ = false) (c15 : W.cell? ⟨w.heap.size + 1, 15, none⟩ = some (.int .u8 (b15.toNat : Int))) (d15 : W.cell? ⟨w.heap.size, 15, none⟩ = some (.int .u8 0)) (f15 : W.frozen? ⟨w.heap.size, 15, none⟩ = false) (HB : Hid (Below w.heap.size w W)) :
    Calls Try.prog 21 #[.string s] w fun e w' => e = .returned (.agg #[B b0, B b1, B b2, B b3, B b4, B b5, B b6, B b7, B b8, B b9, B b10, B b11, B b12, B b13, B b14, B b15]) ∧ Below w.heap.size w w' := by
  have hsl := fun V => slice16 (w.heap.size + 1) s.size hs V
  dsimp only [Z16] at hr
  go_enter Try.func21, Try.ntmps21
  go_wp2_with fail
  refine bodyPost_ret (v := .agg #[B b0, B b1, B b2, B b3, B b4, B b5, B b6, B b7, B b8, B b9, B b10, B b11, B b12, B b13, B b14, B b15]) ?_ rfl ⟨rfl, ?_⟩
  · have hres : Try.f21.results = #[.cell 2 23] := by kernel_rfl
    simp only [results, hres]
    go_simp
    exact ⟨rfl, rfl, rfl, rfl, rfl, rfl, rfl, rfl, rfl, rfl, rfl, rfl, rfl, rfl, rfl, rfl⟩
  · have hk : w.heap.size ≤ w.heap.size := Nat.le_refl _
    exact (((((((((((((((HB.out.setCell hk _).setCell hk _).setCell hk _).setCell hk _).setCell hk _).setCell hk _).setCell hk _).setCell hk _).setCell hk _).setCell hk _).setCell hk _).setCell hk _).setCell hk _).setCell hk _).setCell hk _).setCell hk _

set_option maxHeartbeats 1000000 in
theorem last_large_of (b0 b1 b2 b3 b4 b5 b6 b7 b8 b9 b10 b11 b12 b13 b14 b15 : UInt8) (s u : ByteArray) (w W : World) (hs : 16 < s.size) (hs2 : s.size ≤ 281474976710656) (hu : s.extract ((s.size : Int) - 16).toNat s.size = u)
    (hr : (Builtin.copy_ #[39, 9] 3 #[.slice (some ⟨w.heap.size + 1, 0, none⟩) 16 16, .string u]).run Try.prog ((w.alloc (.cells Z16 23)).alloc (.cells Z16 23)) = .ok (.int .i64 16) W) (c0 : W.cell? ⟨w.heap.size + 1, 0, none⟩ = some (.int .u8 (b0.toNat : Int))) (d0 : W.cell? ⟨w.heap.size, 0, none⟩ = some (.int .u8 0)) (f0 : W.frozen? ⟨w.heap.size, 0, none⟩ = false) (c1 : W.cell? ⟨w.heap.size + 1, 1, none⟩ = some (.int .u8 (b1.toNat : Int))) (d1 : W.cell? ⟨w.heap.size, 1, none⟩ = some (.int .u8 0)) (f1 : W.frozen? ⟨w.heap.size, 1, none⟩ = false) (c2 : W.cell? ⟨w.heap.size + 1, 2, none⟩ = some (.int .u8 (b2.toNat : Int))) (d2 : W.cell? ⟨w.heap.size, 2, none⟩ = some (.int .u8 0)) (f2 : W.frozen? ⟨w.heap.size, 2, none⟩ = false) (c3 : W.cell? ⟨w.heap.size + 1, 3, none⟩ = some (.int .u8 (b3.toNat : Int))) (d3 : W.cell? ⟨w.heap.size, 3, none⟩ = some (.int .u8 0)) (f3 : W.frozen? ⟨w.heap.size, 3, none⟩ = false) (c4 : W.cell? ⟨w.heap.size + 1, 4, none⟩ = some (.int .u8 (b4.toNat : Int))) (d4 : W.cell? ⟨w.heap.size, 4, none⟩ = some (.int .u8 0)) (f4 : W.frozen? ⟨w.heap.size, 4, none⟩ = false) (c5 : W.cell? ⟨w.heap.size + 1, 5, none⟩ = some (.int .u8 (b5.toNat : Int))) (d5 : W.cell? ⟨w.heap.size, 5, none⟩ = some (.int .u8 0)) (f5 : W.frozen? ⟨w.heap.size, 5, none⟩ = false) (c6 : W.cell? ⟨w.heap.size + 1, 6, none⟩ = some (.int .u8 (b6.toNat : Int))) (d6 : W.cell? ⟨w.heap.size, 6, none⟩ = some (.int .u8 0)) (f6 : W.frozen? ⟨w.heap.size, 6, none⟩ = false) (c7 : W.cell? ⟨w.heap.size + 1, 7, none⟩ = some (.int .u8 (b7.toNat : Int))) (d7 : W.cell? ⟨w.heap.size, 7, none⟩ = some (.int .u8 0)) (f7 : W.frozen? ⟨w.heap.size, 7, none⟩ = false) (c8 : W.cell? ⟨w.heap.size + 1, 8, none⟩ = some (.int .u8 (b8.toNat : Int))) (d8 : W.cell? ⟨w.heap.size, 8, none⟩ = some (.int .u8 0)) (f8 : W.frozen? ⟨w.heap.size, 8, none⟩ = false) (c9 : W.cell? ⟨w.heap.size + 1, 9, none⟩ = some (.int .u8 (b9.toNat : Int))) (d9 : W.cell? ⟨w.heap.size, 9, none⟩ = some (.int .u8 0)) (f9 : W.frozen? ⟨w.heap.size, 9, none⟩ = false) (c10 : W.cell? ⟨w.heap.size + 1, 10, none⟩ = some (.int .u8 (b10.toNat : Int))) (d10 : W.cell? ⟨w.heap.size, 10, none⟩ = some (.int .u8 0)) (f10 : W.frozen? ⟨w.heap.size, 10, none⟩ = false) (c11 : W.cell? ⟨w.heap.size + 1, 11, none⟩ = some (.int .u8 (b11.toNat : Int))) (d11 : W.cell? ⟨w.heap.size, 11, none⟩ = some (.int .u8 0)) (f11 : W.frozen? ⟨w.heap.size, 11, none⟩ = false) (c12 : W.cell? ⟨w.heap.size + 1, 12, none⟩ = some (.int .u8 (b12.toNat : Int))) (d12 : W.cell? ⟨w.heap.size, 12, none⟩ = some (.int .u8 0)) (f12 : W.frozen? ⟨w.heap.size, 12, none⟩ = false) (c13 : W.cell? ⟨w.heap.size + 1, 13, none⟩ = some (.int .u8 (b13.toNat : Int))) (d13 : W.cell? ⟨w.heap.size, 13, none⟩ = some (.int .u8 0)) (f13 : W.frozen? ⟨w.heap.size, 13, none⟩ = false) (c14 : W.cell? ⟨w.heap.size + 1, 14, none⟩ = some (.int .u8 (b14.toNat : Int))) (d14 : W.cell? ⟨w.heap.size, 14, none⟩ = some (.int .u8 0)) (f14 : W.frozen? ⟨w.heap.size, 14, none⟩ = false) (c15 : W.cell? ⟨w.heap.size + 1, 15, none⟩ = some (.int .u8 (b15.toNat : Int))) (d15 : W.cell? ⟨w.heap.size, 15, none⟩ = some (.int .u8 0)) (f15 : W.frozen? ⟨w.heap.size, 15, none⟩ = false) (HB : Hid (Below w.heap.size w W)) :
    Calls Try.prog 21 #[.string s] w fun e w' => e = .returned (.agg #[B b0, B b1, B b2, B b3, B b4, B b5, B b6, B b7, B b8, B b9, B b10, B b11, B b12, B b13, B b14, B b15]) ∧ Below w.heap.size w w' := by
  have hsl := fun V => slice16 (w.heap.size + 1) 16 (Nat.le_refl _) V
  rw [show (16 - ((16 : Nat) : Int)) = 0 from rfl, show o16 16 = 0 from rfl] at hsl
  have hn : s.size - ((s.size : Int) - 16).toNat = 16 := by omega
  have hus : u.size = 16 := by rw [← hu, ByteArray.size_extract]; omega
  dsimp only [Z16] at hr
  go_enter Try.func21, Try.ntmps21
  go_wp2_with fail
  refine bodyPost_ret (v := .agg #[B b0, B b1, B b2, B b3, B b4, B b5, B b6, B b7, B b8, B b9, B b10, B b11, B b12, B b13, B b14, B b15]) ?_ rfl ⟨rfl, ?_⟩
  · have hres : Try.f21.results = #[.cell 2 23] := by kernel_rfl
    simp only [results, hres]
    go_simp
    exact ⟨rfl, rfl, rfl, rfl, rfl, rfl, rfl, rfl, rfl, rfl, rfl, rfl, rfl, rfl, rfl, rfl⟩
  · have hk : w.heap.size ≤ w.heap.size := Nat.le_refl _
    exact (((((((((((((((HB.out.setCell hk _).setCell hk _).setCell hk _).setCell hk _).setCell hk _).setCell hk _).setCell hk _).setCell hk _).setCell hk _).setCell hk _).setCell hk _).setCell hk _).setCell hk _).setCell hk _).setCell hk _).setCell hk _

theorem lastBytes_any (s : ByteArray) (w : World) (hs : s.size ≤ 281474976710656) :
    Calls Try.prog 21 #[.string s] w fun e w' => e = .returned (.agg ((Rl.lastL s.data.toList).map B).toArray) ∧ Below w.heap.size w w' := by
  have hl : s.data.toList.length = s.size := by rw [← Lib.size_eq]
  by_cases h : s.size ≤ 16
  · obtain ⟨W, hr, hc, hd, hf, hb⟩ := copied s w h
    obtain ⟨b0, b1, b2, b3, b4, b5, b6, b7, b8, b9, b10, b11, b12, b13, b14, b15, hL⟩ := sixteen _ (Rl.lastL_length s.data.toList)
    simp only [hL] at hc ⊢
    exact last_small_of _ _ _ _ _ _ _ _ _ _ _ _ _ _ _ _ s w W h hr (hc 0 (by omega)) (hd 0 (by omega)) (hf 0 (by omega)) (hc 1 (by omega)) (hd 1 (by omega)) (hf 1 (by omega)) (hc 2 (by omega)) (hd 2 (by omega)) (hf 2 (by omega)) (hc 3 (by omega)) (hd 3 (by omega)) (hf 3 (by omega)) (hc 4 (by omega)) (hd 4 (by omega)) (hf 4 (by omega)) (hc 5 (by omega)) (hd 5 (by omega)) (hf 5 (by omega)) (hc 6 (by omega)) (hd 6 (by omega)) (hf 6 (by omega)) (hc 7 (by omega)) (hd 7 (by omega)) (hf 7 (by omega)) (hc 8 (by omega)) (hd 8 (by omega)) (hf 8 (by omega)) (hc 9 (by omega)) (hd 9 (by omega)) (hf 9 (by omega)) (hc 10 (by omega)) (hd 10 (by omega)) (hf 10 (by omega)) (hc 11 (by omega)) (hd 11 (by omega)) (hf 11 (by omega)) (hc 12 (by omega)) (hd 12 (by omega)) (hf 12 (by omega)) (hc 13 (by omega)) (hd 13 (by omega)) (hf 13 (by omega)) (hc 14 (by omega)) (hd 14 (by omega)) (hf 14 (by omega)) (hc 15 (by omega)) (hd 15 (by omega)) (hf 15 (by omega)) hb
  · obtain ⟨u, hu⟩ : ∃ u, s.extract ((s.size : Int) - 16).toNat s.size = u := ⟨_, rfl⟩
    have hus : u.size = 16 := by rw [← hu, ByteArray.size_extract]; omega
    have hul : u.data.toList.length = 16 := by rw [← Lib.size_eq]; exact hus
    have hud : Rl.lastL u.data.toList = Rl.lastL s.data.toList := by
      rw [lastL_self hul, lastL_large (by omega), ← hu, Lib.extract_data, hl, show ((s.size : Int) - 16).toNat = s.size - 16 from by omega]
      rw [List.take_of_length_le (by rw [List.length_drop]; omega)]
    obtain ⟨W, hr, hc, hd, hf, hb⟩ := copied u w (by omega)
    rw [hus] at hr
    simp only [hud] at hc
    obtain ⟨b0, b1, b2, b3, b4, b5, b6, b7, b8, b9, b10, b11, b12, b13, b14, b15, hL⟩ := sixteen _ (Rl.lastL_length s.data.toList)
    simp only [hL] at hc ⊢
    exact last_large_of _ _ _ _ _ _ _ _ _ _ _ _ _ _ _ _ s u w W (by omega) hs hu hr (hc 0 (by omega)) (hd 0 (by omega)) (hf 0 (by omega)) (hc 1 (by omega)) (hd 1 (by omega)) (hf 1 (by omega)) (hc 2 (by omega)) (hd 2 (by omega)) (hf 2 (by omega)) (hc 3 (by omega)) (hd 3 (by omega)) (hf 3 (by omega)) (hc 4 (by omega)) (hd 4 (by omega)) (hf 4 (by omega)) (hc 5 (by omega)) (hd 5 (by omega)) (hf 5 (by omega)) (hc 6 (by omega)) (hd 6 (by omega)) (hf 6 (by omega)) (hc 7 (by omega)) (hd 7 (by omega)) (hf 7 (by omega)) (hc 8 (by omega)) (hd 8 (by omega)) (hf 8 (by omega)) (hc 9 (by omega)) (hd 9 (by omega)) (hf 9 (by omega)) (hc 10 (by omega)) (hd 10 (by omega)) (hf 10 (by omega)) (hc 11 (by omega)) (hd 11 (by omega)) (hf 11 (by omega)) (hc 12 (by omega)) (hd 12 (by omega)) (hf 12 (by omega)) (hc 13 (by omega)) (hd 13 (by omega)) (hf 13 (by omega)) (hc 14 (by omega)) (hd 14 (by omega)) (hf 14 (by omega)) (hc 15 (by omega)) (hd 15 (by omega)) (hf 15 (by omega)) hb

set_option maxHeartbeats 400000 in
theorem of_any (s : ByteArray) (w : World) (hs : s.size ≤ 281474976710656) :
    Calls Try.prog 12 #[.string s] w fun e w' => e = .returned (.int .u32 (Rl.ofL s.data.toList : Nat)) ∧ Below w.heap.size w w' := by
  rw [← Rl.lastL_sum]
  have h1 := lastBytes_any s w hs
  have h2 := fun W => sumOf_any (Rl.lastL s.data.toList) W (Rl.lastL_length _)
  generalize Rl.lastL s.data.toList = l at *
  go_enter Try.func12, Try.ntmps12
  go_wp2_with fail
  refine h1.mono ?_
  rintro e w1 ⟨rfl, hb1⟩
  go_wp2_with fail
  refine (h2 _).mono ?_
  rintro e w2 ⟨rfl, hb2⟩
  go_wp2_with fail
  go_ret
  exact ⟨rfl, hb1.trans (hb2.mono hb1.size)⟩
end Go.Proofs.Ytipoponlfedplaa
