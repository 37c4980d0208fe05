/-
  Plain facts (no Go in here): a text with one block's bytes turned by a number's.
-/
import Derived.Test.YtkeckdfjgnacnaaMixApartMath
import Derived.Test.YtkeckdfjgnacnaaBase
namespace Go.Proofs.Ytkeckdfjgnacnaa
open Go.RowKit

namespace Mx
/-- the bytes from i on, m of them, turned by the bytes of v, the lowest first -/
def mixed (l : List UInt8) (i m v : Nat) : List UInt8 := l.mapIdx fun j b => if i ≤ j ∧ j < i + m then b ^^^ UInt8.ofNat (v / 256 ^ (j - i)) else b
theorem mixed_length (l : List UInt8) (i m v : Nat) : (mixed l i m v).length = l.length := by simp [mixed]
theorem mixed_get (l : List UInt8) (i m v j : Nat) (h : j < l.length) : (mixed l i m v)[j]'(by rw [mixed_length]; exact h) = if i ≤ j ∧ j < i + m then l[j] ^^^ UInt8.ofNat (v / 256 ^ (j - i)) else l[j] := by
  simp [mixed]
theorem mixed_zero (l : List UInt8) (i v : Nat) : mixed l i 0 v = l := by
  apply List.ext_getElem (mixed_length _ _ _ _)
  intro j h1 h2
  rw [mixed_get l i 0 v j h2, if_neg (by omega)]
theorem mixed_old (l : List UInt8) (b m v k : Nat) (hm : m ≤ 8) (hk : k / 8 ≠ b) : byteAt (mixed l (8 * b) m v) k = byteAt l k := by
  by_cases h : k < l.length
  · rw [byteAt, byteAt, List.getD_eq_getElem?_getD, List.getD_eq_getElem?_getD, List.getElem?_eq_getElem h, List.getElem?_eq_getElem (by rw [mixed_length]; exact h)]
    rw [mixed_get l _ m v k h, if_neg (by omega)]
  · rw [byteAt_past (by rw [mixed_length]; omega), byteAt_past (by omega)]
end Mx

/-- what lies in cell j when k bytes have been turned -/
def mixAt (l : List UInt8) (i k v j : Nat) : Int := (((Mx.mixed l i k v).getD j 0).toNat : Int)
theorem mixAt_get (l : List UInt8) (i k v j : Nat) (h : j < l.length) : mixAt l i k v j = ((if i ≤ j ∧ j < i + k then l[j] ^^^ UInt8.ofNat (v / 256 ^ (j - i)) else l[j]).toNat : Int) := by
  rw [mixAt, List.getD_eq_getElem?_getD, List.getElem?_eq_getElem (by rw [Mx.mixed_length]; exact h)]
  show (((Mx.mixed l i k v)[j]'_).toNat : Int) = _
  rw [Mx.mixed_get l i k v j h]
theorem mix_step {l : List UInt8} {i k v G : Nat} {w : World} {c : Int} (hk : i + k < l.length) (hc : c = ((l[i + k] ^^^ UInt8.ofNat (v / 256 ^ k)).toNat : Int)) (h : ∀ j, j < l.length → w.cell? ⟨G, j, none⟩ = some (.int .u8 (mixAt l i k v j))) :
    ∀ j, j < l.length → (w.setCell ⟨G, i + k, none⟩ (.int .u8 c)).cell? ⟨G, j, none⟩ = some (.int .u8 (mixAt l i (k + 1) v j)) := by
  intro j hj
  by_cases e : j = i + k
  · subst e
    rw [World.cell?_setCell_same _ _ _ (h _ hj), hc, mixAt_get _ _ _ _ _ hj, if_pos (by omega), show i + k - i = k from by omega]
  · rw [World.cell?_setCell_other _ _ _ _ (by intro h; exact e (congrArg Addr.off h).symm), h j hj, mixAt_get _ _ _ _ _ hj, mixAt_get _ _ _ _ _ hj]
    by_cases hjk : i ≤ j ∧ j < i + k
    · rw [if_pos hjk, if_pos (by omega)]
    · rw [if_neg hjk, if_neg (by omega)]
theorem mix_back (l : List UInt8) (i m v G cap : Nat) (w : World) (h : ∀ j, j < l.length → w.cell? ⟨G, j, none⟩ = some (.int .u8 (mixAt l i m v j))) :
    (convert 35 9 (.slice (some ⟨G, 0, none⟩) l.length cap)).run Try.prog w = .ok (.string ⟨(Mx.mixed l i m v).toArray⟩) w := by
  have hl := Mx.mixed_length l i m v
  have := run_convert_bytes_back w 35 9 5 ⟨G, 0, none⟩ cap (Mx.mixed l i m v) (P := Try.prog) (by kernel_rfl) (by kernel_rfl) (by kernel_rfl) (by
    intro j hj
    have e : (⟨G, 0, none⟩ : Addr).add j = ⟨G, j, none⟩ := by unfold Addr.add; split <;> simp_all
    rw [e, h j (by omega), mixAt, List.getD_eq_getElem?_getD, List.getElem?_eq_getElem hj]
    rfl)
  rw [hl] at this
  exact this
end Go.Proofs.Ytkeckdfjgnacnaa
