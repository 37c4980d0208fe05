/-
  What shields of package lumkeep answers of the texts ab and ac.
-/
import Derived.Test.YtoeohnknpbdgdaaDoorShAnyM
import Derived.Test.YtoeohnknpbdgdaaDoorShdEq
import Derived.Test.YtoeohnknpbdgdaaDoorShelfSplit
namespace Go.Proofs.YtoeohnknpbdgdaaDoor
open Go.RowKit
set_option maxRecDepth 4000

def abS : ByteArray := ⟨#[97, 98]⟩
def acS : ByteArray := ⟨#[97, 99]⟩
def abP : List ByteArray := [⟨#[97]⟩, ⟨#[98]⟩]
def acP : List ByteArray := [⟨#[97]⟩, ⟨#[99]⟩]
theorem ab_ok : gErr abP 1 = 0 := by decide +kernel
theorem ac_ok : gErr acP 1 = 0 := by decide +kernel
theorem ab_same : same abP acP 3 = 1 := by decide +kernel
theorem ab_chars : Lib.charsB abS = abP := by decide +kernel
theorem ac_chars : Lib.charsB acS = acP := by decide +kernel

/-- strings.Split of two letters -/
theorem split_two (s : ByteArray) (P : List ByteArray) (w : World) (hs : s.size = 2) (ha : ∀ (j : Nat) b, s.data.toList[j]? = some b → b.toNat < 128) (hP : Lib.charsB s = P) :
    Calls Tryd.prog 12 #[.string s, .string ⟨#[]⟩] w fun e w' => ∃ a c, e = .returned (.slice a 2 c) ∧ Tx w' (.slice a 2 c) P ∧ Below w.heap.size w w' := by
  refine (Tryd.strings_Split_chars s ⟨#[]⟩ w rfl (by omega) ha).mono ?_
  rintro e w' ⟨rfl, rfl⟩
  rw [hs]
  have hlen : P.length = 2 := by rw [← hP]; exact (Lib.charsUpTo_length s s.size).trans hs
  have hb : Below w.heap.size w (w.iter s 2) := (Below.refl _ w).alloc (Nat.le_refl _) _
  refine ⟨_, _, rfl, ⟨.inr ⟨_, 0, 2, by rw [hlen], by simp, fun j hj => ?_⟩⟩, hb.alloc hb.size _⟩
  rw [Nat.zero_add, cell_of_row _ _ j _ _ _ (heap_alloc_new _ _), hP]
  simp [List.getD_eq_getElem?_getD, List.getElem?_eq_getElem hj]

/-- how many of the first q shards are unlike -/
def dif (P Q : List ByteArray) : Nat → Nat
  | 0 => 0
  | q + 1 => dif P Q q + if shd P q = shd Q q then 0 else 1
theorem dif_same (P Q : List ByteArray) : ∀ q, dif P Q q + same P Q q = q
  | 0 => rfl
  | q + 1 => by
    have := dif_same P Q q
    rw [dif, same]
    split <;> omega
theorem bit_seven : ∀ k, k < 3 → bitF 7 k = true := by decide
theorem text_same (s : ByteArray) : (s.toList == s.toList) = true := beq_self_eq_true _

set_option maxHeartbeats 4000000 in
theorem shields_any (w : World) :
    Calls Tryd.prog 6 #[.string ⟨#[97, 98]⟩, .string ⟨#[97, 99]⟩] w fun e w' => e = .returned (.tuple #[.int .i64 2, .bool true]) ∧ Below w.heap.size w w' := by
  have h1 : Calls Tryd.prog 12 #[.string ⟨#[97, 98]⟩, .string ⟨#[]⟩] w fun e w' => ∃ a c, e = .returned (.slice a 2 c) ∧ Tx w' (.slice a 2 c) abP ∧ Below w.heap.size w w' := split_two abS abP w rfl (by
    intro j b hb
    match j, hb with
    | 0, hb => simp [abS] at hb; subst hb; decide
    | 1, hb => simp [abS] at hb; subst hb; decide) ab_chars
  have h2 : ∀ W, Calls Tryd.prog 12 #[.string ⟨#[97, 99]⟩, .string ⟨#[]⟩] W fun e w' => ∃ a c, e = .returned (.slice a 2 c) ∧ Tx w' (.slice a 2 c) acP ∧ Below W.heap.size W w' := fun W => split_two acS acP W rfl (by
    intro j b hb
    match j, hb with
    | 0, hb => simp [acS] at hb; subst hb; decide
    | 1, hb => simp [acS] at hb; subst hb; decide) ac_chars
  have H3 : Hid (∀ (v : Value) W, Tx W v abP → Calls Tryd.prog 5 #[v, .int .i64 1, .int .u64 7] W fun e w' => ∃ a c, e = .returned (.tuple #[.slice a 3 c, .bool true]) ∧ Sx w' (.slice a 3 c) (shs abP 7 3) ∧ Below W.heap.size W w') := fun v W hv => (shards_ok v abP 1 7 W hv ab_ok (by omega)).mono fun e w' ⟨u, a1, a2, a3⟩ => by
    obtain ⟨a, c, rfl⟩ := own_len a2
    exact ⟨a, c, a1, Sx.of_own (by rw [shs_length]; exact a2), a3⟩
  have H4 : Hid (∀ (v : Value) W, Tx W v acP → Calls Tryd.prog 5 #[v, .int .i64 1, .int .u64 7] W fun e w' => ∃ a c, e = .returned (.tuple #[.slice a 3 c, .bool true]) ∧ Sx w' (.slice a 3 c) (shs acP 7 3) ∧ Below W.heap.size W w') := fun v W hv => (shards_ok v acP 1 7 W hv ac_ok (by omega)).mono fun e w' ⟨u, a1, a2, a3⟩ => by
    obtain ⟨a, c, rfl⟩ := own_len a2
    exact ⟨a, c, a1, Sx.of_own (by rw [shs_length]; exact a2), a3⟩
  have HG : Hid (∀ k, k < 3 → (shs abP 7 3).getD k Shd.none = ⟨true, shd abP k⟩ ∧ (shs acP 7 3).getD k Shd.none = ⟨true, shd acP k⟩) := fun k hk => by
    rw [shs_get hk, shs_get hk, mk1, mk1, if_pos (bit_seven k hk), if_pos (bit_seven k hk)]
    exact ⟨rfl, rfl⟩
  have HL : Hid ((shs abP 7 3).length = 3 ∧ (shs acP 7 3).length = 3) := ⟨shs_length _ _ _, shs_length _ _ _⟩
  have HD : Hid (dif abP acP 3 = 2) := by
    have := dif_same abP acP 3
    rw [ab_same] at this
    show dif abP acP 3 = 2
    omega
  have HD0 : Hid (∀ q, dif abP acP q ≤ q) := fun q => by have := dif_same abP acP q; omega
  generalize shs abP 7 3 = L at *
  generalize shs acP 7 3 = M at *
  generalize abP = P at *
  generalize acP = Q at *
  go_enter Tryd.func6, Tryd.ntmps6
  go_wp2_with fail
  refine h1.mono ?_
  rintro e w1 ⟨a1, c1, rfl, hx, hb⟩
  have h3 := H3.out _ w1 hx
  have HB1 : Hid (Below w.heap.size w w1) := hb
  clear hx hb h1 H3
  go_wp2_with fail
  refine h3.mono ?_
  rintro e w2 ⟨la, lc, rfl, hx, hb⟩
  have HB2 : Hid (Below w.heap.size w w2) := HB1.out.trans (hb.mono HB1.out.size)
  have HS2 : Hid (Sx w2 (.slice la 3 lc) L) := hx
  have h2' := h2 w2
  clear hx hb h3 HB1 h2
  go_wp2_with fail
  refine h2'.mono ?_
  rintro e w3 ⟨a2, c2, rfl, hx, hb⟩
  have HB3 : Hid (Below w.heap.size w w3) := HB2.out.trans (hb.mono HB2.out.size)
  have HS3 : Hid (Sx w3 (.slice la 3 lc) L) := HS2.out.below hb
  have h4 := H4.out _ w3 hx
  clear hx hb h2' HB2 HS2 H4
  go_wp2_with fail
  refine h4.mono ?_
  rintro e w4 ⟨ma, mc, rfl, hx, hb⟩
  have HB4 : Hid (Below w.heap.size w w4) := HB3.out.trans (hb.mono HB3.out.size)
  have HS4 : Hid (Sx w4 (.slice la 3 lc) L) := HS3.out.below hb
  have HT4 : Hid (Sx w4 (.slice ma 3 mc) M) := hx
  clear hx hb h4 HB3 HS3
  go_wp2_with fail
  go_loopw [10, 26] (fun nv i wr => ∃ k : Nat, k ≤ 3 ∧ i = .int .i64 k ∧ nv = .int .i64 (dif P Q k : Nat) ∧ Hid (Sx wr (.slice la 3 lc) L) ∧ Hid (Sx wr (.slice ma 3 mc) M) ∧ Hid (Below w.heap.size w wr)) (fun _ i _ => 3 - (intOf i).toNat)
  case atStart => exact ⟨0, by omega, rfl, rfl, HS4, HT4, HB4⟩
  case round =>
    clear HS4 HT4 HB4
    obtain ⟨k, hk, rfl, rfl, HS, HT, HB⟩ := hrel
    have hd := HD0.out k
    by_cases hlt : k < 3
    · obtain ⟨bk, o, rfl, hbk, c0, c1⟩ := HS.out.get k (by rw [HL.out.1]; exact hlt)
      obtain ⟨bk2, o2, rfl, hbk2, d0, d1⟩ := HT.out.get k (by rw [HL.out.2]; exact hlt)
      rw [(HG.out k hlt).1] at c0 c1
      rw [(HG.out k hlt).2] at d0 d1
      dsimp only at c0 c1 d0 d1
      have HDk : Hid (dif P Q (k + 1) = dif P Q k + if shd P k = shd Q k then 0 else 1) := rfl
      have x0 : ∀ X : Since wr.heap.size wr, X.val.cell? ⟨bk, o + k * 2, none⟩ = some (.bool true) := fun X => (X.property.cell (p := ⟨bk, o + k * 2, none⟩) hbk).trans c0
      have x1 : ∀ X : Since wr.heap.size wr, X.val.cell? ⟨bk, o + k * 2 + 1, none⟩ = some (.string (shd P k)) := fun X => (X.property.cell (p := ⟨bk, o + k * 2 + 1, none⟩) hbk).trans c1
      have y0 : ∀ X : Since wr.heap.size wr, X.val.cell? ⟨bk2, o2 + k * 2, none⟩ = some (.bool true) := fun X => (X.property.cell (p := ⟨bk2, o2 + k * 2, none⟩) hbk2).trans d0
      have y1 : ∀ X : Since wr.heap.size wr, X.val.cell? ⟨bk2, o2 + k * 2 + 1, none⟩ = some (.string (shd Q k)) := fun X => (X.property.cell (p := ⟨bk2, o2 + k * 2 + 1, none⟩) hbk2).trans d1
      have hne : Nonempty (Since wr.heap.size wr) := ⟨⟨wr, Below.refl _ _⟩⟩
      have HTB : Hid (∀ X : Since wr.heap.size wr, Sx X.val (.slice (some ⟨bk, o, none⟩) 3 lc) L ∧ Sx X.val (.slice (some ⟨bk2, o2, none⟩) 3 mc) M ∧ Below w.heap.size w X.val) := fun X => ⟨HS.out.below X.property, HT.out.below X.property, HB.out.trans (X.property.mono HB.out.size)⟩
      have hte := fun W => shd_cmp W true (shd P k) (shd Q k)
      clear c0 c1 d0 d1 HS HT HB
      by_cases hsame : shd P k = shd Q k
      · have HDn : Hid (dif P Q (k + 1) = dif P Q k) := by have := HDk.out; rwa [if_pos hsame] at this
        rw [← hsame, text_same] at hte
        rw [← hsame] at y1
        generalize shd P k = s1 at *
        generalize dif P Q k = dn at *
        clear hsame HDk
        go_wp2_with fail
        refine wp_region_since (B := wr.heap.size) (W0 := wr) (by kernel_rfl) (by kernel_rfl) (Below.refl _ _) ?_
        repeat (go_big_quiet_step (fail))
        refine wpQuiet_nil ?_
        rintro w7 ⟨U, rfl⟩
        obtain ⟨q1, q2, q3⟩ := HTB.out U
        have HY : Hid (Sx U.val (.slice (some ⟨bk, o, none⟩) 3 lc) L ∧ Sx U.val (.slice (some ⟨bk2, o2, none⟩) 3 mc) M ∧ Below w.heap.size w U.val) := ⟨q1, q2, q3⟩
        generalize U.val = w7 at *
        clear q1 q2 q3 x0 x1 y0 y1 hne HTB hte
        go_wp2_with fail
        go_roundw
        case rel => exact ⟨k + 1, by omega, by go_num, by rw [HDn.out], HY.out.1, HY.out.2.1, HY.out.2.2⟩
        case measure => simp only [intOf]; omega
      · have HDn : Hid (dif P Q (k + 1) = dif P Q k + 1) := by have := HDk.out; rwa [if_neg hsame] at this
        rw [text_ne hsame] at hte
        generalize shd P k = s1 at *
        generalize shd Q k = s2 at *
        generalize dif P Q k = dn at *
        clear HDk
        go_wp2_with fail
        refine wp_region_since (B := wr.heap.size) (W0 := wr) (by kernel_rfl) (by kernel_rfl) (Below.refl _ _) ?_
        repeat (go_big_quiet_step (fail))
        refine wpQuiet_nil ?_
        rintro w7 ⟨U, rfl⟩
        obtain ⟨q1, q2, q3⟩ := HTB.out U
        have HY : Hid (Sx U.val (.slice (some ⟨bk, o, none⟩) 3 lc) L ∧ Sx U.val (.slice (some ⟨bk2, o2, none⟩) 3 mc) M ∧ Below w.heap.size w U.val) := ⟨q1, q2, q3⟩
        generalize U.val = w7 at *
        clear q1 q2 q3 x0 x1 y0 y1 hne HTB hte
        go_wp2_with fail
        go_roundw
        case rel => exact ⟨k + 1, by omega, by go_num, by rw [HDn.out]; go_num, HY.out.1, HY.out.2.1, HY.out.2.2⟩
        case measure => simp only [intOf]; omega
    · obtain rfl : k = 3 := by omega
      rw [HD.out]
      go_wp2_with fail
      go_ret2
      exact ⟨rfl, HB.out⟩
end Go.Proofs.YtoeohnknpbdgdaaDoor
