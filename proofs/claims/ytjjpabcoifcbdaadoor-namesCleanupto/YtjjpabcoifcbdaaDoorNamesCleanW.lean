/-
  The walk of lumkeep.NamesClean: it returns true.
-/
import Derived.Test.YtjjpabcoifcbdaaDoorNnClean
import Derived.Test.YtjjpabcoifcbdaaDoorShelfPre
import Derived.Test.YtjjpabcoifcbdaaDoorNnSplit
namespace Go.Proofs.YtjjpabcoifcbdaaDoor
open Go.RowKit
set_option maxRecDepth 4000

/-- Clean of a text whose answer is known -/
theorem clean_is {p : ByteArray} {q : List UInt8} {E : Int} (w : World) (hp : p.size ≤ 4194304) (hT : Tabs w) (h : Nn.clean p.data.toList = (q, E)) :
    Calls Tryd.prog 11 #[.string p] w fun e w' => e = .returned (.tuple #[St q, .int .i64 E]) ∧ Below w.heap.size w w' := by
  have := cleanG_any p w hp hT
  unfold ClOut at this
  rw [h] at this
  exact this
theorem Nn.clean_short {p q : List UInt8} (h : Nn.clean p = (q, 0)) : q.length ≤ 777 := by
  obtain ⟨l, _, h0, rfl⟩ := Nn.clean_ok h
  unfold Nn.joinB
  split
  · simp
  · have := Nn.tails_few h0; omega

set_option maxRecDepth 8000 in
set_option maxHeartbeats 2000000 in
theorem namesClean_walk (a0 : ByteArray) (a1 : ByteArray) (z0 : a0.size ≤ 1048576) (z1 : a1.size ≤ 1048576) (w : World) (hT : Tabs w) :
    Calls Tryd.prog 5 #[.string a0, .string a1] w fun e w' => e = .returned (.bool true) ∧ Below w.heap.size w w' := by
  have HT : Hid (Tabs w) := hT
  have h1 := clean_is (p := ⟨#[97, 47, 46, 47, 98, 47, 47, 46, 46, 47, 99]⟩) (q := [47, 97, 47, 99]) (E := 0) w (by decide) hT (by decide +kernel)
  clear hT
  by_cases hc : (Nn.clean a0.data.toList).2 = 0
  · obtain ⟨Q, hQ⟩ : ∃ Q, (Nn.clean a0.data.toList).1 = Q := ⟨_, rfl⟩
    have hcl : Nn.clean a0.data.toList = (Q, 0) := Prod.ext hQ hc
    have hqs := Nn.clean_short hcl
    have h2 := fun u (hu : Below w.heap.size w u) => clean_is (p := a0) u (by omega) (HT.out.below hu) hcl
    have h3 := fun u (hu : Below w.heap.size w u) => clean_is (p := ⟨Q.toArray⟩) u (by rw [Lib.size_eq]; show Q.length ≤ _; omega) (HT.out.below hu) (Nn.clean_again hcl)
    have HBK : Hid (Nn.nm a1.data.toList = 0 → ∀ u, Below w.heap.size w u → Calls Tryd.prog 11 #[.string (a0 ++ ⟨#[47]⟩ ++ a1 ++ ⟨#[47, 46, 46]⟩)] u fun e w' => e = .returned (.tuple #[St Q, .int .i64 0]) ∧ Below u.heap.size u w') := fun hn u hu => by
      refine clean_is u ?_ (HT.out.below hu) ?_
      · simp only [ByteArray.size_append]
        show a0.size + 1 + a1.size + 3 ≤ _
        omega
      · have := Nn.clean_back hn hcl
        simpa using this
    by_cases hp : a0.data.toList.head? = some 47
    · have h4 : ∀ u, Below w.heap.size w u → Calls Tryd.prog 11 #[.string ((⟨#[47, 46]⟩ : ByteArray) ++ a0 ++ ⟨#[47, 47, 46]⟩)] u fun e w' => e = .returned (.tuple #[St Q, .int .i64 0]) ∧ Below u.heap.size u w' := fun u hu => by
        refine clean_is u ?_ (HT.out.below hu) ?_
        · simp only [ByteArray.size_append]
          show 2 + a0.size + 3 ≤ _
          omega
        · have := Nn.clean_dots hp hcl
          simpa using this
      have h5 := fun u => Tryd.strings_HasPrefix a0 ⟨#[47]⟩ u
      rw [show (⟨#[47]⟩ : ByteArray).data.toList = [47] from rfl, hasPre_slash, decide_eq_true hp] at h5
      clear hp hc hQ hcl hqs
      go_enter Tryd.func5, Tryd.ntmps5
      go_wp2_with fail
      refine h1.mono ?_
      rintro e u1 ⟨rfl, b1⟩
      have HB1 : Hid (Below w.heap.size w u1) := b1
      clear b1 h1
      rw [St]
      go_wp2_with fail
      refine (h2 _ HB1.out).mono ?_
      rintro e u2 ⟨rfl, b2⟩
      have HB2 : Hid (Below w.heap.size w u2) := HB1.out.trans (b2.mono HB1.out.size)
      clear b2 h2
      rw [St]
      go_wp2_with fail
      refine (h3 _ HB2.out).mono ?_
      rintro e u3 ⟨rfl, b3⟩
      have HB3 : Hid (Below w.heap.size w u3) := HB2.out.trans (b3.mono HB2.out.size)
      clear b3 h3
      rw [St]
      go_wp2_with fail
      refine (h4 _ HB3.out).mono ?_
      rintro e u4 ⟨rfl, b4⟩
      have HB4 : Hid (Below w.heap.size w u4) := HB3.out.trans (b4.mono HB3.out.size)
      clear b4 h4
      rw [St]
      go_wp2_with fail
      refine (h5 _).mono ?_
      rintro e u ⟨rfl, hu⟩
      obtain rfl := hu.symm
      clear h5
      go_wp2_with fail
      by_cases hn : Nn.nm a1.data.toList = 0
      · have hk := check_any a1 u4 (by omega) (HT.out.below HB4.out)
        have hb := HBK.out hn
        rw [hn] at hk
        clear hn
        go_wp2_with fail
        refine hk.mono ?_
        rintro e u8 ⟨rfl, b8⟩
        have HB8 : Hid (Below w.heap.size w u8) := HB4.out.trans (b8.mono HB4.out.size)
        clear b8 hk
        have hb2 := hb u8 HB8.out
        clear hb
        go_wp2_with fail
        refine hb2.mono ?_
        rintro e u9 ⟨rfl, b9⟩
        have HB9 : Hid (Below w.heap.size w u9) := HB8.out.trans (b9.mono HB8.out.size)
        clear b9 hb2
        rw [St]
        go_wp2_with fail
        go_ret
        exact ⟨rfl, HB9.out⟩
      · have hk := check_any a1 u4 (by omega) (HT.out.below HB4.out)
        generalize Nn.nm a1.data.toList = E1 at *
        have hqn : (E1 != 0) = true := by rw [bne_iff_ne]; exact hn
        clear hn HBK
        go_wp2_with fail
        refine hk.mono ?_
        rintro e u8 ⟨rfl, b8⟩
        have HB8 : Hid (Below w.heap.size w u8) := HB4.out.trans (b8.mono HB4.out.size)
        clear b8 hk
        go_wp2_with fail
        go_ret
        exact ⟨rfl, HB8.out⟩
    · have h4 : ∃ X F, ∀ u, Below w.heap.size w u → Calls Tryd.prog 11 #[.string ((⟨#[47, 46]⟩ : ByteArray) ++ a0 ++ ⟨#[47, 47, 46]⟩)] u fun e w' => e = .returned (.tuple #[St X, .int .i64 F]) ∧ Below u.heap.size u w' := by
        refine ⟨_, _, fun u hu => clean_is u ?_ (HT.out.below hu) rfl⟩
        simp only [ByteArray.size_append]
        show 2 + a0.size + 3 ≤ _
        omega
      obtain ⟨X, F, h4⟩ := h4
      have h5 := fun u => Tryd.strings_HasPrefix a0 ⟨#[47]⟩ u
      rw [show (⟨#[47]⟩ : ByteArray).data.toList = [47] from rfl, hasPre_slash, decide_eq_false hp] at h5
      clear hp hc hQ hcl hqs
      go_enter Tryd.func5, Tryd.ntmps5
      go_wp2_with fail
      refine h1.mono ?_
      rintro e u1 ⟨rfl, b1⟩
      have HB1 : Hid (Below w.heap.size w u1) := b1
      clear b1 h1
      rw [St]
      go_wp2_with fail
      refine (h2 _ HB1.out).mono ?_
      rintro e u2 ⟨rfl, b2⟩
      have HB2 : Hid (Below w.heap.size w u2) := HB1.out.trans (b2.mono HB1.out.size)
      clear b2 h2
      rw [St]
      go_wp2_with fail
      refine (h3 _ HB2.out).mono ?_
      rintro e u3 ⟨rfl, b3⟩
      have HB3 : Hid (Below w.heap.size w u3) := HB2.out.trans (b3.mono HB2.out.size)
      clear b3 h3
      rw [St]
      go_wp2_with fail
      refine (h4 _ HB3.out).mono ?_
      rintro e u4 ⟨rfl, b4⟩
      have HB4 : Hid (Below w.heap.size w u4) := HB3.out.trans (b4.mono HB3.out.size)
      clear b4 h4
      go_wp2_with fail
      refine (h5 _).mono ?_
      rintro e u ⟨rfl, hu⟩
      obtain rfl := hu.symm
      clear h5
      go_wp2_with fail
      by_cases hn : Nn.nm a1.data.toList = 0
      · have hk := check_any a1 u4 (by omega) (HT.out.below HB4.out)
        have hb := HBK.out hn
        rw [hn] at hk
        clear hn
        go_wp2_with fail
        refine hk.mono ?_
        rintro e u8 ⟨rfl, b8⟩
        have HB8 : Hid (Below w.heap.size w u8) := HB4.out.trans (b8.mono HB4.out.size)
        clear b8 hk
        have hb2 := hb u8 HB8.out
        clear hb
        go_wp2_with fail
        refine hb2.mono ?_
        rintro e u9 ⟨rfl, b9⟩
        have HB9 : Hid (Below w.heap.size w u9) := HB8.out.trans (b9.mono HB8.out.size)
        clear b9 hb2
        rw [St]
        go_wp2_with fail
        go_ret
        exact ⟨rfl, HB9.out⟩
      · have hk := check_any a1 u4 (by omega) (HT.out.below HB4.out)
        generalize Nn.nm a1.data.toList = E1 at *
        have hqn : (E1 != 0) = true := by rw [bne_iff_ne]; exact hn
        clear hn HBK
        go_wp2_with fail
        refine hk.mono ?_
        rintro e u8 ⟨rfl, b8⟩
        have HB8 : Hid (Below w.heap.size w u8) := HB4.out.trans (b8.mono HB4.out.size)
        clear b8 hk
        go_wp2_with fail
        go_ret
        exact ⟨rfl, HB8.out⟩
  · have hcl : Nn.clean a0.data.toList = ([], (Nn.clean a0.data.toList).2) := Prod.ext (Nn.clean_bad (e := (Nn.clean a0.data.toList).2) rfl hc) rfl
    have h2 := fun u (hu : Below w.heap.size w u) => clean_is (p := a0) u (by omega) (HT.out.below hu) hcl
    generalize (Nn.clean a0.data.toList).2 = E at *
    have hqn : (E != 0) = true := by rw [bne_iff_ne]; exact hc
    clear hcl hc
    go_enter Tryd.func5, Tryd.ntmps5
    go_wp2_with fail
    refine h1.mono ?_
    rintro e u1 ⟨rfl, b1⟩
    have HB1 : Hid (Below w.heap.size w u1) := b1
    clear b1 h1
    rw [St]
    go_wp2_with fail
    refine (h2 _ HB1.out).mono ?_
    rintro e u2 ⟨rfl, b2⟩
    have HB2 : Hid (Below w.heap.size w u2) := HB1.out.trans (b2.mono HB1.out.size)
    clear b2 h2
    rw [St]
    go_wp2_with fail
    go_ret
    exact ⟨rfl, HB2.out⟩
end Go.Proofs.YtjjpabcoifcbdaaDoor
