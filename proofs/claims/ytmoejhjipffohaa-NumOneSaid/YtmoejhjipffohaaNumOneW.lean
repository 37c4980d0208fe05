/-
  The walk of lumkeep.NumOne: it returns true.
-/
import Derived.Test.YtmoejhjipffohaaMathOne
import Derived.Test.YtmoejhjipffohaaPutInt
import Derived.Test.YtmoejhjipffohaaGetInt
import Derived.Test.YtmoejhjipffohaaGetFloat
import Derived.Test.YtmoejhjipffohaaGetText
import Derived.Test.YtmoejhjipffohaaQuiet
import Derived.Deep.Cut
namespace Go.Proofs.Ytmoejhjipffohaa
open Go.RowKit

theorem list_data (l : List UInt8) : ({ data := l.toArray } : ByteArray).data.toList = l := rfl
theorem list_size (l : List UInt8) : ({ data := l.toArray } : ByteArray).size = l.length := by rw [Lib.size_eq]
theorem get_first : Nm.getN ({ data := #[2, 1, 0] } : ByteArray).data.toList = (256, 3, 0) := by decide
theorem front_eq (s : ByteArray) (k : Nat) {l : List UInt8} (h : l = s.data.toList.take k) : (l == (s.extract 0 k).toList) = true := by
  rw [Lib.toList_data, Lib.extract_data, h]; simp

set_option maxRecDepth 100000 in
set_option maxHeartbeats 4000000 in
theorem numOne_walk (a0 : ByteArray) (z0 : a0.size ≤ 140737488351232) (w : World) :
    Calls Try.prog 7 #[.string a0] w fun e w' => e = .returned (.bool true) ∧ Below w.heap.size w w' := by
  obtain ⟨⟨n1, k1, e1⟩, h1⟩ : ∃ g, Nm.getN a0.data.toList = g := ⟨_, rfl⟩
  have H1 : Hid (Nm.getN a0.data.toList = (n1, k1, e1)) := h1
  obtain ⟨⟨n2, k2, e2⟩, h2⟩ : ∃ g, Nm.getI a0.data.toList = g := ⟨_, rfl⟩
  have H2 : Hid (Nm.getI a0.data.toList = (n2, k2, e2)) := h2
  obtain ⟨⟨n3, k3, e3⟩, h3⟩ : ∃ g, Nm.getF a0.data.toList = g := ⟨_, rfl⟩
  have H3 : Hid (Nm.getF a0.data.toList = (n3, k3, e3)) := h3
  obtain ⟨⟨t4, k4, e4⟩, h4⟩ : ∃ g, Nm.getT a0.data.toList = g := ⟨_, rfl⟩
  have H4 : Hid (Nm.getT a0.data.toList = (t4, k4, e4)) := h4
  clear h1 h2 h3 h4
  go_enter Try.func7, Try.ntmps7
  go_wp2_with fail
  refine (get_any _ _ (by decide)).mono ?_
  rintro e w ⟨rfl, rfl⟩
  rw [get_first]
  go_wp2_with fail
  refine (get_any _ _ (by omega)).mono ?_
  rintro e w ⟨rfl, rfl⟩
  rw [H1.out]
  go_wp2_with fail
  go_cut [56] from 20 (fun t w' => t = .bool false ∧ Below w.heap.size w w')
  case first =>
    have hne := fun p => below_any (Below.refl w.heap.size w) p
    by_cases q : e1 = 0
    · subst q
      obtain ⟨hk, hn, hp⟩ := Nm.get_one H1.out
      rw [← Lib.size_eq] at hk
      have hd : decide (a0.size < k1) = false := decide_eq_false (by omega)
      have hc := front_eq a0 k1 hp
      clear hp
      refine wp_region_below (B := w.heap.size) (W0 := w) (by kernel_rfl) (by kernel_rfl) (Below.refl _ _) ?_
      repeat (go_big_quiet_step ((intro hw'; exact quiet_below hw' (put_any _ _ (by omega) (by omega)))))
      refine wpQuiet_nil ?_
      intro w2 hb2
      go_wp2_with fail
      go_meet
      exact ⟨rfl, hb2⟩
    · have hq : (e1 == 0) = false := by simpa using q
      refine wp_region_below (B := w.heap.size) (W0 := w) (by kernel_rfl) (by kernel_rfl) (Below.refl _ _) ?_
      repeat (go_big_quiet_step (fail))
      refine wpQuiet_nil ?_
      intro w2 hb2
      go_wp2_with fail
      go_meet
      exact ⟨rfl, hb2⟩
  case rest =>
    obtain ⟨rfl, hb1⟩ := hcut
    go_wp2_with fail
    refine (getI_any _ _ (by omega)).mono ?_
    rintro e wc ⟨rfl, rfl⟩
    rw [H2.out]
    go_wp2_with fail
    go_cut [78] from 20 (fun t w' => t = .bool false ∧ Below w.heap.size w w')
    case first =>
      have hne := fun p => below_any (Below.refl w.heap.size w) p
      by_cases q : e2 = 0
      · subst q
        obtain ⟨hk, hn, hm, hp⟩ := Nm.getI_one H2.out
        rw [← Lib.size_eq] at hk
        have hd : decide (a0.size < k2) = false := decide_eq_false (by omega)
        have hc := front_eq a0 k2 hp
        clear hp
        refine wp_region_below (B := w.heap.size) (W0 := w) (by kernel_rfl) (by kernel_rfl) hb1 ?_
        repeat (go_big_quiet_step ((intro hw'; exact quiet_below hw' (putI_any _ _ (by omega) (by omega)))))
        refine wpQuiet_nil ?_
        intro w2 hb2
        go_wp2_with fail
        go_meet
        exact ⟨rfl, hb2⟩
      · have hq : (e2 == 0) = false := by simpa using q
        refine wp_region_below (B := w.heap.size) (W0 := w) (by kernel_rfl) (by kernel_rfl) hb1 ?_
        repeat (go_big_quiet_step (fail))
        refine wpQuiet_nil ?_
        intro w2 hb2
        go_wp2_with fail
        go_meet
        exact ⟨rfl, hb2⟩
    case rest =>
      obtain ⟨rfl, hb2⟩ := hcut
      go_wp2_with fail
      refine (getF_any _ _ (by omega)).mono ?_
      rintro e wc ⟨rfl, rfl⟩
      rw [H3.out]
      go_wp2_with fail
      go_cut [100] from 20 (fun t w' => t = .bool false ∧ Below w.heap.size w w')
      case first =>
        have hne := fun p => below_any (Below.refl w.heap.size w) p
        by_cases q : e3 = 0
        · subst q
          obtain ⟨h8, hk, hn, hp⟩ := Nm.getF_one H3.out
          clear h8
          rw [← Lib.size_eq] at hk
          have hd : decide (a0.size < k3) = false := decide_eq_false (by omega)
          have hc := front_eq a0 k3 hp
          clear hp
          refine wp_region_below (B := w.heap.size) (W0 := w) (by kernel_rfl) (by kernel_rfl) hb2 ?_
          repeat (go_big_quiet_step ((intro hw'; exact quiet_below hw' (putF_any _ _ (by omega)))))
          refine wpQuiet_nil ?_
          intro w2 hb2
          go_wp2_with fail
          go_meet
          exact ⟨rfl, hb2⟩
        · have hq : (e3 == 0) = false := by simpa using q
          refine wp_region_below (B := w.heap.size) (W0 := w) (by kernel_rfl) (by kernel_rfl) hb2 ?_
          repeat (go_big_quiet_step (fail))
          refine wpQuiet_nil ?_
          intro w2 hb2
          go_wp2_with fail
          go_meet
          exact ⟨rfl, hb2⟩
      case rest =>
        obtain ⟨rfl, hb3⟩ := hcut
        go_wp2_with fail
        refine (getT_any _ _ (by omega)).mono ?_
        rintro e w4 ⟨rfl, hb4⟩
        have hb5 := hb3.trans (hb4.mono hb3.size)
        clear hb3 hb4
        rw [H4.out]
        by_cases q : e4 = 0
        · subst q
          obtain ⟨hk, hn, hp⟩ := Nm.getT_one H4.out
          rw [← Lib.size_eq] at hk
          have hc := front_eq a0 k4 hp
          have hd : decide ((k4 : Int) ≤ (a0.size : Int)) = true := decide_eq_true (by omega)
          clear hp
          go_wp2_with fail
          refine (putT_any _ _ (by rw [list_size]; exact hn)).mono ?_
          rintro e w6 ⟨rfl, hb6⟩
          rw [list_data]
          go_wp2_with fail
          go_ret
          exact ⟨rfl, hb5.trans (hb6.mono hb5.size)⟩
        · have hq : (e4 != 0) = true := by simpa using q
          have ht := Nm.getT_err a0.data.toList (by rw [H4.out]; exact q)
          rw [H4.out] at ht
          simp only at ht
          subst ht
          go_wp2_with fail
          go_ret
          exact ⟨rfl, hb5⟩
end Go.Proofs.Ytmoejhjipffohaa
