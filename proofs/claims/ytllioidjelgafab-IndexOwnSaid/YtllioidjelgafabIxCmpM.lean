/-
  P32 (no Go in it): how two places are held against each other: by their digests, then by where they lie.
-/
import Derived.Test.YtllioidjelgafabPlMem
import Derived.Lib.Small
namespace Go.Proofs.Ytllioidjelgafab

/-- two digests held against each other -/
def cId (a b : List UInt8) : Int := if Nm.val a < Nm.val b then -1 else if Nm.val b < Nm.val a then 1 else 0
/-- the first that is not 0 -/
def cOr : List Int → Int
  | [] => 0
  | x :: r => if x = 0 then cOr r else x
def cPl (a b : Plc) : Int := cOr [cId a.id b.id, Lib.compareInt a.pack b.pack, Lib.compareInt a.at_ b.at_, Lib.compareInt a.len b.len, Lib.compareInt a.kind b.kind]
theorem cId_neg {a b : List UInt8} : cId a b < 0 ↔ Nm.val a < Nm.val b := by
  unfold cId
  split
  · exact ⟨fun _ => by assumption, fun _ => by omega⟩
  · split
    · exact ⟨fun h => by omega, fun h => by omega⟩
    · exact ⟨fun h => by omega, fun h => by omega⟩
theorem cId_zero {a b : List UInt8} (h : a.length = b.length) : cId a b = 0 ↔ a = b := by
  constructor
  · intro k
    unfold cId at k
    refine Ix.val_inj h ?_
    split at k
    · exact absurd k (by decide)
    · split at k
      · exact absurd k (by decide)
      · omega
  · rintro rfl
    unfold cId
    rw [if_neg (by omega), if_neg (by omega)]
/-- a place comes ahead of another one -/
theorem cPl_neg {a b : Plc} : cPl a b < 0 ↔ Ix.ky a.p < Ix.ky b.p ∨ (a.id = b.id ∧ Ix.sm a.p b.p) := by
  have hz := cId_zero (a := a.id) (b := b.id) (a.hid.trans b.hid.symm)
  have hn := cId_neg (a := a.id) (b := b.id)
  show cPl a b < 0 ↔ Nm.val a.id < Nm.val b.id ∨ (a.id = b.id ∧ (a.pack < b.pack ∨ (a.pack = b.pack ∧ (a.at_ < b.at_ ∨ (a.at_ = b.at_ ∧ (a.len < b.len ∨ (a.len = b.len ∧ a.kind < b.kind)))))))
  unfold cPl cOr
  split
  · rename_i h0
    have e := hz.1 h0
    have nl : ¬ Nm.val a.id < Nm.val b.id := by rw [e]; omega
    simp only [e, true_and]
    simp only [e] at nl
    simp only [cOr, Lib.compareInt]
    clear hz hn h0
    constructor
    · intro h
      refine .inr ?_
      repeat' split at h
      all_goals omega
    · rintro (h | h)
      · omega
      repeat' split
      all_goals omega
  · rename_i h0
    have ne : ¬ a.id = b.id := fun h => h0 (hz.2 h)
    rw [hn]
    exact ⟨.inl, fun h => h.resolve_right fun k => ne k.1⟩
end Go.Proofs.Ytllioidjelgafab
