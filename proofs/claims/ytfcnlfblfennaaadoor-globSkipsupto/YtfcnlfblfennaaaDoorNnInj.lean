/-
  No Go in it: a text is known by its characters.
-/
import Derived.Test.YtfcnlfblfennaaaDoorNnChr
namespace Go.Proofs.YtfcnlfblfennaaaDoor
namespace Nn

theorem fin_eq {low c n d k : Nat} (h : fin low c n = (d, k)) (hk : k ≠ 0) : c = d ∧ n = k ∧ low ≤ d := by
  unfold fin at h
  split at h
  · simp only [Prod.mk.injEq] at h; omega
  · simp only [Prod.mk.injEq] at h; omega
/-- what the bytes of a character are, by how many they are -/
def Kb (k c b0 b1 b2 b3 : Nat) : Prop :=
  (k = 1 ∧ b0 = c ∧ c < 128) ∨ (k = 2 ∧ 128 ≤ c ∧ c < 2048 ∧ b0 = 192 + c / 64 ∧ b1 = 128 + c % 64) ∨
  (k = 3 ∧ 2048 ≤ c ∧ c < 65536 ∧ b0 = 224 + c / 4096 ∧ b1 = 128 + c / 64 % 64 ∧ b2 = 128 + c % 64) ∨
  (k = 4 ∧ 65536 ≤ c ∧ b0 = 240 + c / 262144 ∧ b1 = 128 + c / 4096 % 64 ∧ b2 = 128 + c / 64 % 64 ∧ b3 = 128 + c % 64)
theorem kb_two {n b0 b1 b2 b3 c k : Nat} (hb : 194 ≤ b0 ∧ b0 < 224) (h : chrR n b0 b1 b2 b3 = (c, k)) (hk : k ≠ 0) : Kb k c b0 b1 b2 b3 := by
  unfold chrR at h
  rw [if_neg (by omega), if_pos hb] at h
  split at h
  · simp only [Prod.mk.injEq] at h; omega
  · rename_i q
    obtain ⟨h1, h2, h3⟩ := fin_eq h hk
    exact .inr (.inl ⟨by omega, by omega, by omega, by omega, by omega⟩)
theorem kb_three {n b0 b1 b2 b3 c k : Nat} (hb : 224 ≤ b0 ∧ b0 < 240) (h : chrR n b0 b1 b2 b3 = (c, k)) (hk : k ≠ 0) : Kb k c b0 b1 b2 b3 := by
  unfold chrR at h
  rw [if_neg (by omega), if_neg (by omega), if_pos hb] at h
  split at h
  · simp only [Prod.mk.injEq] at h; omega
  · rename_i q
    simp only [not_or] at q
    obtain ⟨h1, h2, h3⟩ := fin_eq h hk
    obtain ⟨_, ⟨q1, q2⟩, q3, q4⟩ := q
    obtain ⟨x, rfl⟩ : ∃ x, b0 = 224 + x := ⟨b0 - 224, by omega⟩
    obtain ⟨y, rfl⟩ : ∃ y, b1 = 128 + y := ⟨b1 - 128, by omega⟩
    obtain ⟨z, rfl⟩ : ∃ z, b2 = 128 + z := ⟨b2 - 128, by omega⟩
    have hc : c = 4096 * x + 64 * y + z := by omega
    clear h1 h
    exact .inr (.inr (.inl ⟨by omega, by omega, by omega, by omega, by omega, by omega⟩))
theorem kb_four {n b0 b1 b2 b3 c k : Nat} (hb : 240 ≤ b0 ∧ b0 < 245) (h : chrR n b0 b1 b2 b3 = (c, k)) (hk : k ≠ 0) : Kb k c b0 b1 b2 b3 := by
  unfold chrR at h
  rw [if_neg (by omega), if_neg (by omega), if_neg (by omega), if_pos hb] at h
  split at h
  · simp only [Prod.mk.injEq] at h; omega
  · rename_i q
    simp only [not_or] at q
    obtain ⟨h1, h2, h3⟩ := fin_eq h hk
    obtain ⟨_, ⟨q1, q2⟩, ⟨q3, q4⟩, q5, q6⟩ := q
    obtain ⟨x, rfl⟩ : ∃ x, b0 = 240 + x := ⟨b0 - 240, by omega⟩
    obtain ⟨y, rfl⟩ : ∃ y, b1 = 128 + y := ⟨b1 - 128, by omega⟩
    obtain ⟨z, rfl⟩ : ∃ z, b2 = 128 + z := ⟨b2 - 128, by omega⟩
    obtain ⟨u, rfl⟩ : ∃ u, b3 = 128 + u := ⟨b3 - 128, by omega⟩
    have hc : c = 262144 * x + 4096 * y + 64 * z + u := by omega
    clear h1 h
    exact .inr (.inr (.inr ⟨by omega, by omega, by omega, by omega, by omega, by omega⟩))
theorem kb_any {n b0 b1 b2 b3 c k : Nat} (h : chrR n b0 b1 b2 b3 = (c, k)) (hk : k ≠ 0) : Kb k c b0 b1 b2 b3 := by
  by_cases c1 : b0 < 128
  · unfold chrR at h
    rw [if_pos c1] at h
    simp only [Prod.mk.injEq] at h
    exact .inl ⟨h.2.symm, h.1, by omega⟩
  by_cases c2 : 194 ≤ b0 ∧ b0 < 224
  · exact kb_two c2 h hk
  by_cases c3 : 224 ≤ b0 ∧ b0 < 240
  · exact kb_three c3 h hk
  by_cases c4 : 240 ≤ b0 ∧ b0 < 245
  · exact kb_four c4 h hk
  · unfold chrR at h
    rw [if_neg c1, if_neg c2, if_neg c3, if_neg c4] at h
    simp only [Prod.mk.injEq] at h; omega
theorem kb_inj {k j c b0 b1 b2 b3 a0 a1 a2 a3 : Nat} (h : Kb k c b0 b1 b2 b3) (g : Kb j c a0 a1 a2 a3) : k = j ∧ k ≤ 4 ∧ b0 = a0 ∧ (2 ≤ k → b1 = a1) ∧ (3 ≤ k → b2 = a2) ∧ (4 ≤ k → b3 = a3) := by
  unfold Kb at h g
  rcases h with ⟨h1, h2, h3⟩ | ⟨h1, h2, h3, h4, h5⟩ | ⟨h1, h2, h3, h4, h5, h6⟩ | ⟨h1, h2, h3, h4, h5, h6⟩
  · rcases g with ⟨g1, g2, g3⟩ | ⟨g1, g2, g3, g4, g5⟩ | ⟨g1, g2, g3, g4, g5, g6⟩ | ⟨g1, g2, g3, g4, g5, g6⟩
    · exact ⟨by omega, by omega, by omega, by omega, by omega, by omega⟩
    all_goals omega
  · rcases g with ⟨g1, g2, g3⟩ | ⟨g1, g2, g3, g4, g5⟩ | ⟨g1, g2, g3, g4, g5, g6⟩ | ⟨g1, g2, g3, g4, g5, g6⟩
    · omega
    · exact ⟨by omega, by omega, h4.trans g4.symm, fun _ => h5.trans g5.symm, by omega, by omega⟩
    all_goals omega
  · rcases g with ⟨g1, g2, g3⟩ | ⟨g1, g2, g3, g4, g5⟩ | ⟨g1, g2, g3, g4, g5, g6⟩ | ⟨g1, g2, g3, g4, g5, g6⟩
    · omega
    · omega
    · exact ⟨by omega, by omega, h4.trans g4.symm, fun _ => h5.trans g5.symm, fun _ => h6.trans g6.symm, by omega⟩
    · omega
  · rcases g with ⟨g1, g2, g3⟩ | ⟨g1, g2, g3, g4, g5⟩ | ⟨g1, g2, g3, g4, g5, g6⟩ | ⟨g1, g2, g3, g4, g5, g6⟩
    · omega
    · omega
    · omega
    · exact ⟨by omega, by omega, h3.trans g3.symm, fun _ => h4.trans g4.symm, fun _ => h5.trans g5.symm, fun _ => h6.trans g6.symm⟩
theorem getD_nat {a b : UInt8} (h : a.toNat = b.toNat) : a = b := UInt8.toNat_inj.1 h
/-- two texts whose first character is one begin with the same bytes -/
theorem chr_inj {l m : List UInt8} (hl : l ≠ []) (hm : m ≠ []) (h1 : (chr l).2 ≠ 0) (h2 : (chr m).2 ≠ 0) (hc : (chr l).1 = (chr m).1) : (chr l).2 = (chr m).2 ∧ l.take (chr l).2 = m.take (chr l).2 := by
  have l1 := chr_le l
  have l2 := chr_le m
  have k1 := kb_any (c := (chr l).1) (k := (chr l).2) (chr_R l hl).symm h1
  have k2 := kb_any (c := (chr m).1) (k := (chr m).2) (chr_R m hm).symm h2
  rw [← hc] at k2
  obtain ⟨e, k4, e0, e1, e2, e3⟩ := kb_inj k1 k2
  refine ⟨e, ?_⟩
  rw [← e] at l2
  generalize (chr l).2 = k at *
  refine List.ext_getElem (by rw [List.length_take, List.length_take]; omega) fun i g1 g2 => ?_
  rw [List.length_take] at g1 g2
  rw [List.getElem_take, List.getElem_take]
  have gl : ∀ (x : List UInt8) (j : Nat) (hj : j < x.length), x.getD j 0 = x[j] := fun x j hj => by rw [List.getD_eq_getElem?_getD, List.getElem?_eq_getElem hj]; rfl
  rw [← gl l i (by omega), ← gl m i (by omega)]
  have hi4 : i < 4 := by omega
  match i, hi4 with
  | 0, _ => exact getD_nat e0
  | 1, _ => exact getD_nat (e1 (by omega))
  | 2, _ => exact getD_nat (e2 (by omega))
  | 3, _ => exact getD_nat (e3 (by omega))
/-- texts of the same characters are one -/
theorem chars_inj : ∀ (l m : List UInt8) (cs : List Nat), chars l = some cs → chars m = some cs → l = m := by
  intro l
  induction l using chars_ind with
  | h0 =>
    intro m cs h g
    rw [chars_nil] at h
    cases h
    exact ((chars_empty m).1 g).symm
  | hs l hne ih =>
    intro m cs h g
    rw [chars_step l hne] at h
    by_cases c : (chr l).2 = 0
    · rw [if_pos c] at h; cases h
    rw [if_neg c] at h
    obtain ⟨r, hr, rfl⟩ := Option.map_eq_some_iff.1 h
    have hm : m ≠ [] := fun e => by rw [e, chars_nil] at g; cases g
    rw [chars_step m hm] at g
    by_cases d : (chr m).2 = 0
    · rw [if_pos d] at g; cases g
    rw [if_neg d] at g
    obtain ⟨r', hr', e⟩ := Option.map_eq_some_iff.1 g
    simp only [List.cons.injEq] at e
    obtain ⟨e1, rfl⟩ := e
    obtain ⟨e2, e3⟩ := chr_inj hne hm c d e1.symm
    rw [← e2] at hr'
    have := ih c (m.drop (chr l).2) r' hr hr'
    rw [← List.take_append_drop (chr l).2 l, ← List.take_append_drop (chr l).2 m, e3, this]
/-- a character is known by its own bytes, whatever stands behind -/
theorem chrR_more {n m b0 b1 b2 b3 a1 a2 a3 c k : Nat} (h : chrR n b0 b1 b2 b3 = (c, k)) (hk : k ≠ 0) (hm : k ≤ m) (e1 : 2 ≤ k → a1 = b1) (e2 : 3 ≤ k → a2 = b2) (e3 : 4 ≤ k → a3 = b3) : chrR m b0 a1 a2 a3 = (c, k) := by
  unfold chrR at h ⊢
  by_cases c1 : b0 < 128
  · rw [if_pos c1] at h ⊢; exact h
  rw [if_neg c1] at h ⊢
  by_cases c2 : 194 ≤ b0 ∧ b0 < 224
  · rw [if_pos c2] at h ⊢
    split at h
    · simp only [Prod.mk.injEq] at h; omega
    · rename_i q
      have hk2 := (fin_eq h hk).2.1
      rw [e1 (by omega), if_neg (by omega)]
      exact h
  rw [if_neg c2] at h ⊢
  by_cases c3 : 224 ≤ b0 ∧ b0 < 240
  · rw [if_pos c3] at h ⊢
    split at h
    · simp only [Prod.mk.injEq] at h; omega
    · rename_i q
      have hk2 := (fin_eq h hk).2.1
      rw [e1 (by omega), e2 (by omega), if_neg (by omega)]
      exact h
  rw [if_neg c3] at h ⊢
  by_cases c4 : 240 ≤ b0 ∧ b0 < 245
  · rw [if_pos c4] at h ⊢
    split at h
    · simp only [Prod.mk.injEq] at h; omega
    · rename_i q
      have hk2 := (fin_eq h hk).2.1
      rw [e1 (by omega), e2 (by omega), e3 (by omega), if_neg (by omega)]
      exact h
  · rw [if_neg c4] at h
    simp only [Prod.mk.injEq] at h; omega
theorem getD_app {a b : List UInt8} {j : Nat} (h : j < a.length) : (a ++ b).getD j 0 = a.getD j 0 := by
  rw [List.getD_eq_getElem?_getD, List.getD_eq_getElem?_getD, List.getElem?_append_left h]
theorem chr_app {a : List UInt8} (b : List UInt8) (h : (chr a).2 ≠ 0) : chr (a ++ b) = chr a := by
  have ha : a ≠ [] := fun e => by rw [e] at h; exact h rfl
  have hl := chr_le a
  rw [chr_R (a ++ b) (by simp [ha])]
  have h1 := (chr_R a ha).symm
  have h0 : 0 < a.length := List.length_pos_iff.2 ha
  rw [getD_app h0]
  exact chrR_more (c := (chr a).1) (k := (chr a).2) h1 h (by rw [List.length_append]; omega) (fun q => by rw [getD_app (by omega)]) (fun q => by rw [getD_app (by omega)]) (fun q => by rw [getD_app (by omega)])
theorem chr_back {a b : List UInt8} (h : (chr (a ++ b)).2 ≠ 0) (hl : (chr (a ++ b)).2 ≤ a.length) : chr a = chr (a ++ b) := by
  have ha : a ≠ [] := fun e => by rw [e] at hl; simp at hl; rw [e] at h; exact h hl
  have h0 : 0 < a.length := List.length_pos_iff.2 ha
  have h1 := (chr_R (a ++ b) (by simp [ha])).symm
  rw [getD_app h0] at h1
  rw [chr_R a ha]
  exact chrR_more (c := (chr (a ++ b)).1) (k := (chr (a ++ b)).2) h1 h hl (fun q => by rw [getD_app (by omega)]) (fun q => by rw [getD_app (by omega)]) (fun q => by rw [getD_app (by omega)])
theorem chars_app : ∀ (a b : List UInt8) (x : List Nat), chars a = some x → chars (a ++ b) = (chars b).map (x ++ ·) := by
  intro a
  induction a using chars_ind with
  | h0 =>
    intro b x h
    rw [chars_nil] at h
    cases h
    rw [List.nil_append]
    cases chars b <;> rfl
  | hs a hne ih =>
    intro b x h
    rw [chars_step a hne] at h
    by_cases c : (chr a).2 = 0
    · rw [if_pos c] at h; cases h
    rw [if_neg c] at h
    obtain ⟨r, hr, rfl⟩ := Option.map_eq_some_iff.1 h
    have hl := chr_le a
    rw [chars_step (a ++ b) (by simp [hne]), chr_app b c, if_neg c, List.drop_append_of_le_length hl, ih c b r hr, Option.map_map]
    rfl
/-- at a slash a text of characters is cut into two of them -/
theorem chars_cut : ∀ (n : Nat) (a b : List UInt8) (cs : List Nat), a.length ≤ n → chars (a ++ 47 :: b) = some cs → ∃ x y, chars a = some x ∧ chars b = some y ∧ cs = x ++ 47 :: y := by
  intro n
  induction n with
  | zero =>
    intro a b cs hn h
    have ha : a = [] := List.length_eq_zero_iff.1 (Nat.le_zero.1 hn)
    subst ha
    rw [List.nil_append, chars_step _ (by simp), chr_ascii 47 b (by decide)] at h
    rw [if_neg (by decide)] at h
    obtain ⟨y, hy, rfl⟩ := Option.map_eq_some_iff.1 h
    exact ⟨[], y, rfl, hy, rfl⟩
  | succ n ih =>
    intro a b cs hn h
    by_cases ha : a = []
    · subst ha
      rw [List.nil_append, chars_step _ (by simp), chr_ascii 47 b (by decide)] at h
      rw [if_neg (by decide)] at h
      obtain ⟨y, hy, rfl⟩ := Option.map_eq_some_iff.1 h
      exact ⟨[], y, rfl, hy, rfl⟩
    have hne : a ++ 47 :: b ≠ [] := by simp
    have h0 : 0 < a.length := List.length_pos_iff.2 ha
    rw [chars_step _ hne] at h
    by_cases c : (chr (a ++ 47 :: b)).2 = 0
    · rw [if_pos c] at h; cases h
    rw [if_neg c] at h
    have hle : (chr (a ++ 47 :: b)).2 ≤ a.length := by
      rcases chr_bytes _ hne c with ⟨e, _⟩ | ⟨_, hb⟩
      · omega
      · rcases Nat.lt_or_ge a.length (chr (a ++ 47 :: b)).2 with q | q
        · have := hb a.length q
          rw [List.getD_eq_getElem?_getD, List.getElem?_append_right (Nat.le_refl _), Nat.sub_self] at this
          simp at this
        · exact q
    have e := chr_back c hle
    obtain ⟨r, hr, rfl⟩ := Option.map_eq_some_iff.1 h
    rw [List.drop_append_of_le_length hle] at hr
    obtain ⟨x, y, h1, h2, rfl⟩ := ih _ b r (by rw [List.length_drop]; omega) hr
    refine ⟨(chr (a ++ 47 :: b)).1 :: x, y, ?_, h2, rfl⟩
    rw [chars_step a ha, e, if_neg c, h1]
    rfl
end Nn
end Go.Proofs.YtfcnlfblfennaaaDoor
