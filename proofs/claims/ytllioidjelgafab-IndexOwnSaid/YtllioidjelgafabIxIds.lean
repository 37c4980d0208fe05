/-
  What compareIDs of package index answers: two IDs held against each other.
-/
import Derived.Test.YtllioidjelgafabPlCheck
import Derived.Test.YtllioidjelgafabIxCmpM
import Derived.Lib.Bytealg
import Derived.Lib.UnsafeStr
import Derived.Shelf.SlSortCmp.QuietGrown
namespace Go.Proofs.Ytllioidjelgafab
open Go.RowKit Go.Sort

theorem cmp_cId : ∀ (x y : List UInt8), x.length = y.length → Lib.compareBytes x y = cId x y
  | [], [], _ => rfl
  | [], _ :: _, h => absurd h (by simp)
  | _ :: _, [], h => absurd h (by simp)
  | a :: x, b :: y, h => by
    have hl : x.length = y.length := by simpa using h
    have ih := cmp_cId x y hl
    have h1 := less_val (a :: x) (b :: y) h
    have h2 := less_val (b :: y) (a :: x) h.symm
    have hx := less_val x y hl
    have hy := less_val y x hl.symm
    rw [Op.bytesLess, hx] at h1
    rw [Op.bytesLess, hy] at h2
    rw [Lib.compareBytes]
    unfold cId at ih ⊢
    by_cases c1 : a < b
    · rw [if_pos c1]
      have : Nm.val (a :: x) < Nm.val (b :: y) := by
        have := h1.symm.trans (by simp [c1] : _ = true)
        exact of_decide_eq_true this
      rw [if_pos this]
    · rw [if_neg c1]
      by_cases c2 : b < a
      · rw [if_pos c2]
        have h3 : Nm.val (b :: y) < Nm.val (a :: x) := by
          have := h2.symm.trans (by simp [c2] : _ = true)
          exact of_decide_eq_true this
        rw [if_neg (by omega), if_pos h3]
      · rw [if_neg c2, ih]
        have e : a = b := UInt8.le_antisymm (UInt8.not_lt.1 c2) (UInt8.not_lt.1 c1)
        subst e
        rw [Nm.val_cons, Nm.val_cons, hl]
        simp only [Nat.add_lt_add_iff_left]
theorem run_loadBytesE {P : Program} (w : World) : ∀ (l : List UInt8) (G j : Nat) (acc : ByteArray), (∀ i b, l[i]? = some b → w.cell? ⟨G, j + i, none⟩ = some (B b)) →
    (Extern.Bytes.loadBytes ⟨G, j, none⟩ l.length acc).run P w = .ok ⟨acc.data ++ l.toArray⟩ w
  | [], _, _, acc, _ => by simp [Extern.Bytes.loadBytes]
  | x :: l, G, j, acc, h => by
    have h0 : w.cell? ⟨G, j, none⟩ = some (.int .u8 x.toNat) := h 0 x rfl
    have ih := run_loadBytesE (P := P) w l G (j + 1) (acc.push x) (fun i b hb => by
      have := h (i + 1) b (by simpa using hb)
      rw [show j + 1 + i = j + (i + 1) from by omega]
      exact this)
    have hx : ((x.toNat : Int).toNat).toUInt8 = x := by simp
    have ea : (⟨G, j, none⟩ : Addr).add 1 = ⟨G, j + 1, none⟩ := by simp [Addr.add]
    simp only [List.length_cons, Extern.Bytes.loadBytes, Sem.run_bind, run_load, h0, Result.andThen, hx, ea]
    rw [ih]
    congr 1
    apply ByteArray.ext
    simp
theorem run_cmpIds {P : Program} (w : World) (x y : List UInt8) (g h : Nat) (hx : ∀ i b, x[i]? = some b → w.cell? ⟨g, i, none⟩ = some (B b)) (hy : ∀ i b, y[i]? = some b → w.cell? ⟨h, i, none⟩ = some (B b)) (cx cy : Nat) :
    (Extern.BytealgCompare.compare #[.slice (some ⟨g, 0, none⟩) x.length cx, .slice (some ⟨h, 0, none⟩) y.length cy]).run P w = .ok (.int .i64 (Lib.compareBytes x y)) w := by
  change Sem.run P (do pure (goInt (Extern.BytealgCompare.cmp (← Extern.Bytes.bytesOf (.slice (some ⟨g, 0, none⟩) x.length cx)) (← Extern.Bytes.bytesOf (.slice (some ⟨h, 0, none⟩) y.length cy))))) w = _
  simp only [Extern.Bytes.bytesOf, Sem.run_bind, run_loadBytesE w x g 0 _ (fun i b hb => by rw [Nat.zero_add]; exact hx i b hb), run_loadBytesE w y h 0 _ (fun i b hb => by rw [Nat.zero_add]; exact hy i b hb), Sem.run_pure, Result.andThen]
  rw [Lib.cmp_eq]
  have e : ∀ l : List UInt8, (⟨ByteArray.empty.data ++ l.toArray⟩ : ByteArray).data.toList = l := fun l => by simp
  rw [e, e]
  rfl

set_option maxHeartbeats 1000000 in
theorem bcmp_any (x y : List UInt8) (g h : Nat) (w : World) (hl : x.length = 8) (hl2 : y.length = 8) (hx : ∀ i b, x[i]? = some b → w.cell? ⟨g, i, none⟩ = some (B b)) (hy : ∀ i b, y[i]? = some b → w.cell? ⟨h, i, none⟩ = some (B b)) :
    Calls Try.prog 36 #[.slice (some ⟨g, 0, none⟩) 8 8, .slice (some ⟨h, 0, none⟩) 8 8] w fun e w' => e = .returned (.int .i64 (cId x y)) ∧ w' = w := by
  have hr := run_cmpIds (P := Try.prog) w x y g h hx hy 8 8
  rw [cmp_cId x y (hl.trans hl2.symm), hl, hl2] at hr
  generalize cId x y = r at hr ⊢
  clear hx hy
  go_enter Try.func36, Try.ntmps36
  go_wp2_with fail
  rw [run_callFunc_extern Try.func44 (by kernel_rfl) (by kernel_rfl) (by kernel_rfl) (e := Extern.BytealgCompare.compare) (by kernel_rfl), hr]
  simp only [Result.andThen]
  rw [Oper.upon_value]
  go_wp2_with fail
  go_ret
  exact ⟨rfl, rfl⟩

theorem box_cells {w : World} {x : List UInt8} {t : TypeId} : ∀ i b, x[i]? = some b → (w.alloc (.cells (x.map B).toArray t)).cell? ⟨w.heap.size, i, none⟩ = some (B b) := fun i b hb => by
  rw [cell_of_row _ w.heap.size i _ _ _ (heap_alloc_new w _)]
  simp [hb]
theorem grow_two (w : World) (o1 o2 : Obj) (n : Nat) : ((w.alloc o1).alloc o2).drewN n = grow (w.drewN n) #[o1, o2] := by
  rw [alloc_eq_grow, alloc_eq_grow, grow_grow]; rfl

set_option maxHeartbeats 1000000 in
theorem cmpIds_any (x y : List UInt8) (w : World) (hl : x.length = 8) (hl2 : y.length = 8) :
    Calls Try.prog 27 #[idV x, idV y] w fun e w' => e = .returned (.int .i64 (cId x y)) ∧ ∃ q os', w' = grow (w.drewN q) os' := by
  have hx := box_cells (w := w) (x := x) (t := 27)
  have hy := box_cells (w := w.alloc (.cells (x.map B).toArray 27)) (x := y) (t := 27)
  have hx2 : ∀ i b, x[i]? = some b → ((w.alloc (.cells (x.map B).toArray 27)).alloc (.cells (y.map B).toArray 27)).cell? ⟨w.heap.size, i, none⟩ = some (B b) := fun i b hb => by
    have hb2 := (Below.refl (w.alloc (.cells (x.map B).toArray 27)).heap.size (w.alloc (.cells (x.map B).toArray 27))).alloc (Nat.le_refl _) (.cells (y.map B).toArray 27)
    rw [hb2.cell (by show w.heap.size < (w.heap.push _).size; simp)]
    exact hx i b hb
  have hc := fun n => bcmp_any x y w.heap.size (w.heap.size + 1) (((w.alloc (.cells (x.map B).toArray 27)).alloc (.cells (y.map B).toArray 27)).drewN n) hl hl2 (fun i b hb => hx2 i b hb) (fun i b hb => by
    have e : (w.alloc (.cells (x.map B).toArray 27)).heap.size = w.heap.size + 1 := by show (w.heap.push _).size = _; simp
    have := hy i b hb
    rw [e] at this
    exact this)
  clear hx hy hx2
  have HG : Hid (∀ n, ∃ q os', ((w.alloc (.cells (x.map B).toArray 27)).alloc (.cells (y.map B).toArray 27)).drewN n = grow (w.drewN q) os') := fun n => ⟨n, _, grow_two _ _ _ _⟩
  unfold idV
  have z1 : ((x.map B).toArray).size = 8 := by simp [hl]
  have z2 : ((y.map B).toArray).size = 8 := by simp [hl2]
  generalize cId x y = r at hc ⊢
  generalize (x.map B).toArray = X at *
  generalize (y.map B).toArray = Y at *
  clear hl hl2
  go_enter Try.func27, Try.ntmps27
  go_wp2_with fail
  go_quiet (exact (hc _).mono fun e w' h => ⟨h.1, _, h.2⟩)
  go_wp2_with fail
  go_ret
  exact ⟨rfl, HG.out _⟩
end Go.Proofs.Ytllioidjelgafab
