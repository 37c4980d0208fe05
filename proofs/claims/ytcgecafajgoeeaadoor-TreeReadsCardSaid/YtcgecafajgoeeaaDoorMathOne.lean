/-
  Plain facts (no Go in here): what was got is put as just those bytes.
-/
import Derived.Test.YtcgecafajgoeeaaDoorMathBack
namespace Go.Proofs.YtcgecafajgoeeaaDoor
namespace Nm

theorem read_some {l : List UInt8} {k t n : Nat} (h : readN l k t = (n, 0)) : k ≤ 8 ∧ k ≤ l.length ∧ n < 256 ^ 8 ∧ tn t (dig n) = l.take k ∧ (dig n).length = k := by
  unfold readN at h
  split at h
  · cases h
  split at h
  · cases h
  split at h
  · cases h
  rename_i h8 hl hd
  obtain ⟨rfl, _⟩ := Prod.mk.inj h
  have hlen : (l.take k).length = k := by rw [List.length_take]; omega
  have hv := val_lt (tn t (l.take k))
  rw [tn_length, hlen] at hv
  have hp : 256 ^ k ≤ 256 ^ 8 := Nat.pow_le_pow_right (by omega) (by omega)
  have hdv : dig (val (tn t (l.take k))) = tn t (l.take k) := by
    refine dig_val _ (by rw [tn_length, hlen]; omega) ?_
    by_cases hk : k = 0
    · left; subst hk; rfl
    · right
      intro e
      apply hd
      refine ⟨by omega, ?_⟩
      cases l with
      | nil => simp at hl; omega
      | cons b l =>
        cases k with
        | zero => exact absurd rfl hk
        | succ k => simpa [tn] using e
  exact ⟨by omega, by omega, by omega, by rw [hdv, tn_tn], by rw [hdv, tn_length, hlen]⟩
theorem cons_of {l : List UInt8} (h : l ≠ []) : ∃ b r, l = b :: r := by
  cases l with
  | nil => exact absurd rfl h
  | cons b r => exact ⟨b, r, rfl⟩
theorem getN_cons (b : UInt8) (r : List UInt8) : getN (b :: r) = if (readN r b.toNat 0).2 = 0 then ((readN r b.toNat 0).1, 1 + b.toNat, (0 : Int)) else ((0 : Nat), (0 : Nat), (readN r b.toNat 0).2) := by
  rw [getN, if_neg (by simp)]; rfl
theorem getI_hi (b : UInt8) (r : List UInt8) (h : 128 ≤ b.toNat) : getI (b :: r) = if (readN r (b.toNat - 128) 0).2 = 0 then (if 9223372036854775807 < (readN r (b.toNat - 128) 0).1 then ((0 : Int), (0 : Nat), (4 : Int)) else (((readN r (b.toNat - 128) 0).1 : Int), 1 + (b.toNat - 128), (0 : Int))) else ((0 : Int), (0 : Nat), (readN r (b.toNat - 128) 0).2) := by
  rw [getI, if_neg (by simp), if_pos (show 128 ≤ ((b :: r).headD 0).toNat from h)]; rfl
theorem getI_lo (b : UInt8) (r : List UInt8) (h : ¬ 128 ≤ b.toNat) : getI (b :: r) = if (readN r (127 - b.toNat) 255).2 = 0 then (if 9223372036854775807 < (readN r (127 - b.toNat) 255).1 then ((0 : Int), (0 : Nat), (4 : Int)) else (-1 - ((readN r (127 - b.toNat) 255).1 : Int), 1 + (127 - b.toNat), (0 : Int))) else ((0 : Int), (0 : Nat), (readN r (127 - b.toNat) 255).2) := by
  rw [getI, if_neg (by simp), if_neg (show ¬ 128 ≤ ((b :: r).headD 0).toNat from h)]; rfl
theorem get_one {l : List UInt8} {n k : Nat} (h : getN l = (n, k, 0)) : k ≤ l.length ∧ n < 256 ^ 8 ∧ put n = l.take k := by
  have hne : l ≠ [] := by intro e; subst e; cases h
  obtain ⟨b, r, rfl⟩ := cons_of hne
  rw [getN_cons] at h
  generalize hr : readN r b.toNat 0 = x at h
  obtain ⟨x1, x2⟩ := x
  simp only at h
  split at h
  · rename_i h0
    subst h0
    obtain ⟨rfl, h2⟩ := Prod.mk.inj h
    obtain ⟨rfl, _⟩ := Prod.mk.inj h2
    obtain ⟨g1, g2, g3, g4, g5⟩ := read_some hr
    rw [tn_zero] at g4
    refine ⟨by rw [List.length_cons]; omega, g3, ?_⟩
    rw [put, Nat.add_comm 1, List.take_succ_cons, ← g4, g5]
    simp
  · rename_i h0
    obtain ⟨_, h2⟩ := Prod.mk.inj h
    obtain ⟨_, h3⟩ := Prod.mk.inj h2
    exact absurd h3 h0
theorem getI_one {l : List UInt8} {n : Int} {k : Nat} (h : getI l = (n, k, 0)) : k ≤ l.length ∧ -9223372036854775808 ≤ n ∧ n ≤ 9223372036854775807 ∧ putI n = l.take k := by
  have hne : l ≠ [] := by intro e; subst e; cases h
  obtain ⟨b, r, rfl⟩ := cons_of hne
  have hb := b.toNat_lt
  by_cases hc : 128 ≤ b.toNat
  · rw [getI_hi b r hc] at h
    generalize hr : readN r (b.toNat - 128) 0 = x at h
    obtain ⟨x1, x2⟩ := x
    simp only at h
    split at h
    · rename_i h0
      subst h0
      split at h
      · cases h
      rename_i hm
      obtain ⟨rfl, h2⟩ := Prod.mk.inj h
      obtain ⟨rfl, _⟩ := Prod.mk.inj h2
      obtain ⟨g1, g2, g3, g4, g5⟩ := read_some hr
      rw [tn_zero] at g4
      refine ⟨by rw [List.length_cons]; omega, by omega, by omega, ?_⟩
      rw [putI, if_neg (by omega), Int.toNat_natCast, Nat.add_comm 1, List.take_succ_cons, ← g4, g5, show 128 + (b.toNat - 128) = b.toNat from by omega]
      simp
    · rename_i h0
      obtain ⟨_, h2⟩ := Prod.mk.inj h
      obtain ⟨_, h3⟩ := Prod.mk.inj h2
      exact absurd h3 h0
  · rw [getI_lo b r hc] at h
    generalize hr : readN r (127 - b.toNat) 255 = x at h
    obtain ⟨x1, x2⟩ := x
    simp only at h
    split at h
    · rename_i h0
      subst h0
      split at h
      · cases h
      rename_i hm
      obtain ⟨rfl, h2⟩ := Prod.mk.inj h
      obtain ⟨rfl, _⟩ := Prod.mk.inj h2
      obtain ⟨g1, g2, g3, g4, g5⟩ := read_some hr
      refine ⟨by rw [List.length_cons]; omega, by omega, by omega, ?_⟩
      rw [putI, if_pos (by omega), show (-1 - (-1 - (x1 : Int))).toNat = x1 from by omega, Nat.add_comm 1, List.take_succ_cons, ← g4, g5, show 127 - (127 - b.toNat) = b.toNat from by omega]
      simp
    · rename_i h0
      obtain ⟨_, h2⟩ := Prod.mk.inj h
      obtain ⟨_, h3⟩ := Prod.mk.inj h2
      exact absurd h3 h0
theorem flip_unflip (n : Nat) (h : n < 18446744073709551616) : flip (unflip n) = n := by
  unfold unflip
  split
  · rw [flip, if_neg (by omega)]; omega
  · rw [flip, if_pos (by omega)]; omega
theorem getF_one {l : List UInt8} {b k : Nat} (h : getF l = (b, k, 0)) : k = 8 ∧ k ≤ l.length ∧ b < 18446744073709551616 ∧ putF b = l.take k := by
  unfold getF at h
  split at h
  · cases h
  rename_i hl
  split at h
  · cases h
  rename_i hn
  obtain ⟨rfl, h2⟩ := Prod.mk.inj h
  obtain ⟨rfl, _⟩ := Prod.mk.inj h2
  have hlen : (l.take 8).length = 8 := by rw [List.length_take]; omega
  have hv := val_lt (l.take 8)
  rw [hlen] at hv
  have hone : oneNaN (unflip (val (l.take 8))) = unflip (val (l.take 8)) := by
    unfold oneNaN
    split
    · rename_i h1
      by_cases he : unflip (val (l.take 8)) = 9221120237041090561
      · exact he.symm
      · exact absurd ⟨h1, he⟩ hn
    · rfl
  refine ⟨rfl, by omega, ?_, ?_⟩
  · unfold unflip; split <;> omega
  · rw [putF, hone, flip_unflip _ (by omega)]
    have := low_val (l.take 8)
    rw [hlen] at this
    exact this
theorem scan_one : ∀ (n : Nat) (l acc : List UInt8) (p : Nat) (t : List UInt8) (k : Nat), l.length ≤ n → acc.length ≤ 1024 → scanT l acc p = (t, k, 0) →
    ∃ u, t = acc ++ u ∧ t.length ≤ 1024 ∧ k = p + (putT u).length ∧ (putT u).length ≤ l.length ∧ putT u = l.take (putT u).length := by
  intro n
  induction n with
  | zero =>
    intro l acc p t k hl _ h
    have : l = [] := List.length_eq_zero_iff.1 (by omega)
    subst this
    cases h
  | succ n ih =>
    intro l acc p t k hl ha h
    cases l with
    | nil => cases h
    | cons b r =>
      rw [List.length_cons] at hl
      by_cases hb : b = 0
      · subst hb
        cases r with
        | nil => rw [scan_end] at h; cases h
        | cons d r =>
          rw [List.length_cons] at hl
          by_cases hd0 : d = 0
          · subst hd0
            rw [scan_zeros] at h
            obtain ⟨rfl, h2⟩ := Prod.mk.inj h
            obtain ⟨rfl, _⟩ := Prod.mk.inj h2
            exact ⟨[], by simp, ha, rfl, by simp [putT, esc], rfl⟩
          · by_cases hd1 : d = 255
            · subst hd1
              by_cases hf : acc.length = 1024
              · rw [scan_esc_full _ _ _ hf] at h; cases h
              · rw [scan_esc _ _ _ hf] at h
                obtain ⟨u, g1, g2, g3, g4, g5⟩ := ih r _ _ _ _ (by omega) (by simp; omega) h
                refine ⟨0 :: u, by rw [g1]; simp, g2, ?_, ?_, ?_⟩
                · rw [g3]; simp [putT, esc]; omega
                · have e : (putT (0 :: u)).length = (putT u).length + 2 := by simp [putT, esc]
                  rw [e, List.length_cons, List.length_cons]; omega
                · have e : putT (0 :: u) = 0 :: 255 :: putT u := rfl
                  rw [e, List.length_cons, List.length_cons, List.take_succ_cons, List.take_succ_cons, ← g5]
            · rw [scan_bad _ _ _ _ hd0 hd1] at h; cases h
      · by_cases hf : acc.length = 1024
        · rw [scan_full _ _ _ _ hb hf] at h; cases h
        · rw [scan_byte _ _ _ _ hb hf] at h
          obtain ⟨u, g1, g2, g3, g4, g5⟩ := ih r _ _ _ _ (by omega) (by simp; omega) h
          have e : putT (b :: u) = b :: putT u := by simp [putT, esc, hb]
          refine ⟨b :: u, by rw [g1]; simp, g2, ?_, ?_, ?_⟩
          · rw [g3, e, List.length_cons]; omega
          · rw [e, List.length_cons, List.length_cons]; omega
          · rw [e, List.length_cons, List.take_succ_cons, ← g5]
theorem getT_one {l t : List UInt8} {k : Nat} (h : getT l = (t, k, 0)) : k ≤ l.length ∧ t.length ≤ 1024 ∧ putT t = l.take k := by
  obtain ⟨u, g1, g2, g3, g4, g5⟩ := scan_one l.length l [] 0 t k (Nat.le_refl _) (by simp) h
  rw [List.nil_append] at g1
  subst g1
  rw [Nat.zero_add] at g3
  subst g3
  exact ⟨g4, g2, g5⟩
theorem scan_err : ∀ (n : Nat) (l acc : List UInt8) (p : Nat), l.length ≤ n → (scanT l acc p).2.2 = 0 ∨ (scanT l acc p).1 = [] := by
  intro n
  induction n with
  | zero =>
    intro l acc p hl
    have : l = [] := List.length_eq_zero_iff.1 (by omega)
    subst this
    right; rfl
  | succ n ih =>
    intro l acc p hl
    cases l with
    | nil => right; rfl
    | cons b r =>
      rw [List.length_cons] at hl
      by_cases hb : b = 0
      · subst hb
        cases r with
        | nil => rw [scan_end]; right; rfl
        | cons d r =>
          rw [List.length_cons] at hl
          by_cases hd0 : d = 0
          · subst hd0; rw [scan_zeros]; left; rfl
          · by_cases hd1 : d = 255
            · subst hd1
              by_cases hf : acc.length = 1024
              · rw [scan_esc_full _ _ _ hf]; right; rfl
              · rw [scan_esc _ _ _ hf]; exact ih _ _ _ (by omega)
            · rw [scan_bad _ _ _ _ hd0 hd1]; right; rfl
      · by_cases hf : acc.length = 1024
        · rw [scan_full _ _ _ _ hb hf]; right; rfl
        · rw [scan_byte _ _ _ _ hb hf]; exact ih _ _ _ (by omega)
theorem getT_err (l : List UInt8) (h : (getT l).2.2 ≠ 0) : (getT l).1 = [] := (scan_err l.length l [] 0 (Nat.le_refl _)).resolve_left h
end Nm
end Go.Proofs.YtcgecafajgoeeaaDoor
