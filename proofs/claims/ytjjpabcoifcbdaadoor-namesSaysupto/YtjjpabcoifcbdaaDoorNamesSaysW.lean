/-
  The walk of lumlaw.NamesSays: it returns true.
-/
import Derived.Test.YtjjpabcoifcbdaaDoorRnLess
import Derived.Test.YtjjpabcoifcbdaaDoorTxEq
namespace Go.Proofs.YtjjpabcoifcbdaaDoor
open Go.RowKit
set_option maxRecDepth 4000

theorem dl_same : ∀ {l m : List ByteArray}, dl l = dl m → l = m := by
  intro l m h
  exact (List.map_inj_right (f := fun x : ByteArray => x.data.toList) (fun x y h => ByteArray.ext (Array.toList_inj.1 h))).1 h
theorem split_short {p : List UInt8} {l : List ByteArray} (h : dl l = (Nn.split p).1) : l.length ≤ 8 := by
  by_cases h0 : (Nn.split p).2 = 0
  · have := split_len h0
    rwa [← h, dl_length] at this
  · have : (Nn.split p).1 = [] := by
      unfold Nn.split at h0 ⊢
      repeat' split
      all_goals first | rfl | (rename_i a b c; rw [if_neg a, if_neg b, if_neg c] at h0; exact absurd rfl h0)
    rw [this] at h
    have : l = [] := by simpa [dl] using h
    rw [this]; simp

set_option maxRecDepth 8000 in
set_option maxHeartbeats 4000000 in
theorem namesSays_walk (a0 : ByteArray) (a1 : ByteArray) (a2 : ByteArray) (v3 : Value) (l3 : List ByteArray) (z0 : a0.size ≤ 1048576) (z1 : a1.size ≤ 1048576) (z2 : a2.size ≤ 1048576) (z3 : l3.length ≤ 140737488351232) (y3 : ∀ s ∈ l3, s.size ≤ 1048576) (hc3 : Cp v3) (w : World) (t3 : Tx w v3 l3) (hT : Tabs w) :
    Calls Tryd.prog 3 #[.string a0, .string a1, .string a2, v3] w fun e w' => e = .returned (.bool true) ∧ Below w.heap.size w w' := by
  obtain ⟨a3, c3, rfl⟩ := t3.slice
  have HT : Hid (Tabs w) := hT
  have h1 := split_any a1 w (by omega) hT
  have h2 := fun u => rsplit_any a1 u (by omega)
  have h3 := fun u (hu : Below w.heap.size w u) => joinG_any _ l3 u (t3.below hu) hc3 z3 (fun s hs => by have := y3 s hs; omega) (HT.out.below hu)
  have h4 := fun u (hu : Below w.heap.size w u) => rjoin_any _ l3 u (t3.below hu) z3 (fun s hs => by have := y3 s hs; omega)
  have h5 := fun u (hu : Below w.heap.size w u) => cleanG_any a1 u (by omega) (HT.out.below hu)
  have h6 := fun u => rclean_any a1 u (by omega)
  have h7 := fun u (hu : Below w.heap.size w u) => less_any a1 a2 u (by omega) (by omega) (HT.out.below hu)
  have h8 := fun u => rless_any a1 a2 u (by omega) (by omega)
  have h9 := fun u (hu : Below w.heap.size w u) => check_any a0 u (by omega) (HT.out.below hu)
  have h10 := fun u => rname_any a0 u (by omega)
  unfold JnOut at h3 h4
  unfold ClOut at h5 h6
  generalize Nn.join (dl l3) = J at *
  generalize Nn.clean a1.data.toList = C at *
  generalize Nn.less a1.data.toList a2.data.toList = Z at *
  generalize Nn.nm a0.data.toList = M at *
  obtain ⟨J, F⟩ := J
  obtain ⟨C, G⟩ := C
  obtain ⟨X, Y⟩ := Z
  dsimp only at h3 h4 h5 h6 h7 h8
  clear hT t3 y3 z3 hc3
  go_enter Tryd.func3, Tryd.ntmps3
  go_wp2_with fail
  refine h1.mono ?_
  rintro e u1 ⟨va, la, rfl, da, xa, _, b1⟩
  have HB1 : Hid (Below w.heap.size w u1) := b1
  have HXa : Hid (Tx u1 va la) := xa
  obtain ⟨pa, ca, rfl⟩ := xa.slice
  clear h1 b1 xa
  go_wp2_with fail
  refine (h2 u1).mono ?_
  rintro e u2 ⟨vb, lb, rfl, db, xb, _, b2⟩
  have hlab : la = lb := dl_same (da.trans db.symm)
  subst hlab
  have HLn : Hid (la.length ≤ 8) := split_short da
  have HB2 : Hid (Below w.heap.size w u2) := HB1.out.trans (b2.mono HB1.out.size)
  have HXa2 : Hid (Tx u2 (.slice pa la.length ca) la) := HXa.out.below b2
  have HXb2 : Hid (Tx u2 vb la) := xb
  obtain ⟨pb, cb, rfl⟩ := xb.slice
  clear h2 b2 xb da db HXa
  generalize (Nn.split a1.data.toList).2 = E at *
  go_wp2_with fail
  refine (h3 u2 HB2.out).mono ?_
  rintro e u3 ⟨rfl, b3⟩
  have HG3 : Hid (Below u2.heap.size u2 u3) := b3
  have HB3 : Hid (Below w.heap.size w u3) := HB2.out.trans (b3.mono HB2.out.size)
  clear h3 b3
  go_wp2_with fail
  refine (h4 u3 HB3.out).mono ?_
  rintro e u4 ⟨rfl, b4⟩
  have HG4 : Hid (Below u2.heap.size u2 u4) := HG3.out.trans (b4.mono HG3.out.size)
  have HB4 : Hid (Below w.heap.size w u4) := HB3.out.trans (b4.mono HB3.out.size)
  clear h4 b4 HG3
  go_wp2_with fail
  refine (h5 u4 HB4.out).mono ?_
  rintro e u5 ⟨rfl, b5⟩
  have HG5 : Hid (Below u2.heap.size u2 u5) := HG4.out.trans (b5.mono HG4.out.size)
  have HB5 : Hid (Below w.heap.size w u5) := HB4.out.trans (b5.mono HB4.out.size)
  clear h5 b5 HG4
  go_wp2_with fail
  refine (h6 u5).mono ?_
  rintro e u6 ⟨rfl, b6⟩
  have HG6 : Hid (Below u2.heap.size u2 u6) := HG5.out.trans (b6.mono HG5.out.size)
  have HB6 : Hid (Below w.heap.size w u6) := HB5.out.trans (b6.mono HB5.out.size)
  clear h6 b6 HG5
  go_wp2_with fail
  refine (h7 u6 HB6.out).mono ?_
  rintro e u7 ⟨rfl, b7⟩
  have HG7 : Hid (Below u2.heap.size u2 u7) := HG6.out.trans (b7.mono HG6.out.size)
  have HB7 : Hid (Below w.heap.size w u7) := HB6.out.trans (b7.mono HB6.out.size)
  clear h7 b7 HG6
  go_wp2_with fail
  refine (h8 u7).mono ?_
  rintro e u8 ⟨rfl, b8⟩
  have HG8 : Hid (Below u2.heap.size u2 u8) := HG7.out.trans (b8.mono HG7.out.size)
  have HB8 : Hid (Below w.heap.size w u8) := HB7.out.trans (b8.mono HB7.out.size)
  clear h8 b8 HG7
  go_wp2_with fail
  refine (h9 u8 HB8.out).mono ?_
  rintro e u9 ⟨rfl, b9⟩
  have HG9 : Hid (Below u2.heap.size u2 u9) := HG8.out.trans (b9.mono HG8.out.size)
  have HB9 : Hid (Below w.heap.size w u9) := HB8.out.trans (b9.mono HB8.out.size)
  clear h9 b9 HG8
  go_wp2_with fail
  refine (h10 u9).mono ?_
  rintro e u10 ⟨rfl, b10⟩
  have HG10 : Hid (Below u2.heap.size u2 u10) := HG9.out.trans (b10.mono HG9.out.size)
  have HB10 : Hid (Below w.heap.size w u10) := HB9.out.trans (b10.mono HB9.out.size)
  have he := equal_txs _ _ la u10 (HXa2.out.below HG10.out) (HXb2.out.below HG10.out) (by have := HLn.out; omega)
  clear h10 b10 HG9
  rw [St, St]
  go_wp2_with fail
  refine he.mono ?_
  rintro e u11 ⟨rfl, b11⟩
  have HB11 : Hid (Below w.heap.size w u11) := HB10.out.trans (b11.mono HB10.out.size)
  clear he b11
  go_wp2_with fail
  go_ret
  exact ⟨rfl, HB11.out⟩
end Go.Proofs.YtjjpabcoifcbdaaDoor
