/-
  Plain facts (no Go in here): texts of one length that are unlike within one block only have unlike sums.
-/
import Derived.Test.YtllioidjelgafabMixMd
import Derived.Test.YtllioidjelgafabMath
namespace Go.Proofs.Ytllioidjelgafab
namespace Mx

theorem blk_same {l l' : List UInt8} {i : Nat} (h : ∀ j, j < 8 → byteAt l (8 * i + j) = byteAt l' (8 * i + j)) : blk l i = blk l' i := by
  have key : ∀ c, c ≤ 8 → hi l i c = hi l' i c := by
    intro c
    induction c with
    | zero => intro _; rfl
    | succ c ih => intro hc; rw [hi, hi, ih (by omega), h (7 - c) (by omega)]
  exact key 8 (Nat.le_refl _)
theorem chain_same {l l' : List UInt8} (w i : Nat) (h : ∀ j, j < i → blk l j = blk l' j) : chain w l i = chain w l' i := by
  induction i with
  | zero => rfl
  | succ i ih => rw [chain, chain, ih (fun j hj => h j (by omega)), h i (by omega)]
/-- MixApart's own: the sums are alike just if the texts are -/
theorem apart (l l' : List UInt8) (b : Nat) (hl : l.length = l'.length) (hsz : l.length < 18446744073709551616) (h : ∀ k, k / 8 ≠ b → byteAt l k = byteAt l' k) (hs : narrow 64 l = narrow 64 l') : l = l' := by
  have hblk : ∀ j, j ≠ b → blk l j = blk l' j := fun j hj => blk_same fun k hk => h _ (by omega)
  have hpre : chain 64 l b = chain 64 l' b := chain_same 64 b fun j hj => hblk j (by omega)
  rw [narrow, narrow, cut_64 (step_lt _ _), cut_64 (step_lt _ _), ← hl] at hs
  have htop := step_inj (chain_lt _ _ _) (chain_lt _ _ _) hsz hs
  have hb : blk l b = blk l' b := by
    by_cases hbn : b < (l.length + 7) / 8
    · have down : ∀ d, d + (b + 1) ≤ (l.length + 7) / 8 → chain 64 l ((l.length + 7) / 8 - d) = chain 64 l' ((l.length + 7) / 8 - d) := by
        intro d
        induction d with
        | zero => intro _; exact htop
        | succ d ih =>
          intro hd
          have h1 := ih (by omega)
          rw [show (l.length + 7) / 8 - d = (l.length + 7) / 8 - (d + 1) + 1 from by omega, chain, chain, cut_64 (step_lt _ _), cut_64 (step_lt _ _), hblk _ (by omega)] at h1
          exact step_inj (chain_lt _ _ _) (chain_lt _ _ _) (blk_lt _ _) h1
      have h1 := down ((l.length + 7) / 8 - (b + 1)) (by omega)
      rw [show (l.length + 7) / 8 - ((l.length + 7) / 8 - (b + 1)) = b + 1 from by omega, chain, chain, cut_64 (step_lt _ _), cut_64 (step_lt _ _), hpre] at h1
      exact step_inj_block (chain_lt _ _ _) (blk_lt _ _) (blk_lt _ _) h1
    · exact blk_same fun j hj => by rw [byteAt_past (by omega), byteAt_past (by omega)]
  apply same_of_bytes l l' hl
  intro k
  by_cases hk : k / 8 = b
  · have := byte_of_blk l l' b hb (k % 8) (by omega)
    rwa [show 8 * b + k % 8 = k from by omega] at this
  · exact h k hk
end Mx

theorem low8_inj {m n : Nat} (hm : m < 18446744073709551616) (hn : n < 18446744073709551616) (h : Nm.low 8 m = Nm.low 8 n) : m = n := by
  have := congrArg Nm.val h
  rw [Nm.val_low, Nm.val_low, Nat.mod_eq_of_lt (by simpa using hm), Nat.mod_eq_of_lt (by simpa using hn)] at this
  exact this
end Go.Proofs.Ytllioidjelgafab
