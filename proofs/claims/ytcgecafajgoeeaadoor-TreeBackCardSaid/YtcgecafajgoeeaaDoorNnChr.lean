/-
  P36 (no Go in it): the characters of a text, and when it is a name.
-/
import Derived.Lib.DecodeN
import Derived.Lib.TrimUEq
import Derived.Lib.MapLaws
namespace Go.Proofs.YtcgecafajgoeeaaDoor
namespace Nn
open Go.Lib

/-- how a character ends, by its least number and its bytes -/
def fin (low c n : Nat) : Nat × Nat := if c < low ∨ 1114111 < c ∨ (55296 ≤ c ∧ c < 57344) then (0, 0) else (c, n)
/-- a character by the ranges of its bytes; 0 bytes: none -/
def chrR (n b0 b1 b2 b3 : Nat) : Nat × Nat :=
  if b0 < 128 then (b0, 1)
  else if 194 ≤ b0 ∧ b0 < 224 then
    (if n < 2 ∨ (b1 < 128 ∨ 191 < b1) then (0, 0) else fin 128 (64 * (b0 - 192) + b1 - 128) 2)
  else if 224 ≤ b0 ∧ b0 < 240 then
    (if n < 3 ∨ (b1 < 128 ∨ 191 < b1) ∨ (b2 < 128 ∨ 191 < b2) then (0, 0) else fin 2048 (64 * (64 * (b0 - 224) + b1 - 128) + b2 - 128) 3)
  else if 240 ≤ b0 ∧ b0 < 245 then
    (if n < 4 ∨ (b1 < 128 ∨ 191 < b1) ∨ (b2 < 128 ∨ 191 < b2) ∨ (b3 < 128 ∨ 191 < b3) then (0, 0) else fin 65536 (64 * (64 * (64 * (b0 - 240) + b1 - 128) + b2 - 128) + b3 - 128) 4)
  else (0, 0)
theorem chr_two (n b0 b1 b2 b3 : Nat) (h1 : b1 < 256) (hb : 194 ≤ b0 ∧ b0 < 224) : chrR n b0 b1 b2 b3 = if decodeN n b0 b1 b2 b3 = (65533, 1) then (0, 0) else decodeN n b0 b1 b2 b3 := by
  unfold chrR decodeN
  rw [if_neg (by omega), if_pos hb, if_neg (show ¬ b0 < 128 by omega)]
  by_cases c : n < 2 ∨ (b1 < 128 ∨ 191 < b1)
  · rw [if_pos c, if_neg (show ¬ (b0 / 32 = 6 ∧ (1 < n ∧ b1 / 64 = 2)) by omega), if_neg (show ¬ (b0 / 16 = 14 ∧ (1 < n ∧ b1 / 64 = 2) ∧ (2 < n ∧ b2 / 64 = 2)) by omega), if_neg (show ¬ (b0 / 8 = 30 ∧ (1 < n ∧ b1 / 64 = 2) ∧ (2 < n ∧ b2 / 64 = 2) ∧ (3 < n ∧ b3 / 64 = 2)) by omega), if_pos rfl]
  · rw [if_neg c, if_pos (show b0 / 32 = 6 ∧ (1 < n ∧ b1 / 64 = 2) by omega), if_pos (show b0 % 32 * 64 + b1 % 64 ≥ 128 by omega), if_neg (by simp only [Prod.mk.injEq]; omega), fin, if_neg (by omega)]
    simp only [Prod.mk.injEq, and_true]
    omega
theorem chr_three (n b0 b1 b2 b3 : Nat) (h1 : b1 < 256) (h2 : b2 < 256) (hb : 224 ≤ b0 ∧ b0 < 240) : chrR n b0 b1 b2 b3 = if decodeN n b0 b1 b2 b3 = (65533, 1) then (0, 0) else decodeN n b0 b1 b2 b3 := by
  unfold chrR decodeN
  rw [if_neg (by omega), if_neg (by omega), if_pos hb, if_neg (show ¬ b0 < 128 by omega), if_neg (show ¬ (b0 / 32 = 6 ∧ (1 < n ∧ b1 / 64 = 2)) by omega)]
  by_cases c : n < 3 ∨ (b1 < 128 ∨ 191 < b1) ∨ (b2 < 128 ∨ 191 < b2)
  · rw [if_pos c, if_neg (show ¬ (b0 / 16 = 14 ∧ (1 < n ∧ b1 / 64 = 2) ∧ (2 < n ∧ b2 / 64 = 2)) by omega), if_neg (show ¬ (b0 / 8 = 30 ∧ (1 < n ∧ b1 / 64 = 2) ∧ (2 < n ∧ b2 / 64 = 2) ∧ (3 < n ∧ b3 / 64 = 2)) by omega), if_pos rfl]
  · rw [if_neg c, if_pos (show b0 / 16 = 14 ∧ (1 < n ∧ b1 / 64 = 2) ∧ (2 < n ∧ b2 / 64 = 2) by omega)]
    have e : 64 * (64 * (b0 - 224) + b1 - 128) + b2 - 128 = b0 % 16 * 4096 + b1 % 64 * 64 + b2 % 64 := by omega
    rw [e]
    generalize b0 % 16 * 4096 + b1 % 64 * 64 + b2 % 64 = v
    unfold fin
    by_cases d : v ≥ 2048 ∧ (v < 55296 ∨ (57344 ≤ v ∧ v ≤ 1114111))
    · rw [if_pos d, if_neg (by omega), if_neg (by simp only [Prod.mk.injEq]; omega)]
    · rw [if_neg d, if_pos (by omega), if_pos rfl]
theorem chr_four (n b0 b1 b2 b3 : Nat) (h1 : b1 < 256) (h2 : b2 < 256) (h3 : b3 < 256) (hb : 240 ≤ b0 ∧ b0 < 245) : chrR n b0 b1 b2 b3 = if decodeN n b0 b1 b2 b3 = (65533, 1) then (0, 0) else decodeN n b0 b1 b2 b3 := by
  unfold chrR decodeN
  rw [if_neg (by omega), if_neg (by omega), if_neg (by omega), if_pos hb, if_neg (show ¬ b0 < 128 by omega), if_neg (show ¬ (b0 / 32 = 6 ∧ (1 < n ∧ b1 / 64 = 2)) by omega), if_neg (show ¬ (b0 / 16 = 14 ∧ (1 < n ∧ b1 / 64 = 2) ∧ (2 < n ∧ b2 / 64 = 2)) by omega)]
  by_cases c : n < 4 ∨ (b1 < 128 ∨ 191 < b1) ∨ (b2 < 128 ∨ 191 < b2) ∨ (b3 < 128 ∨ 191 < b3)
  · rw [if_pos c, if_neg (show ¬ (b0 / 8 = 30 ∧ (1 < n ∧ b1 / 64 = 2) ∧ (2 < n ∧ b2 / 64 = 2) ∧ (3 < n ∧ b3 / 64 = 2)) by omega), if_pos rfl]
  · rw [if_neg c, if_pos (show b0 / 8 = 30 ∧ (1 < n ∧ b1 / 64 = 2) ∧ (2 < n ∧ b2 / 64 = 2) ∧ (3 < n ∧ b3 / 64 = 2) by omega)]
    have e : 64 * (64 * (64 * (b0 - 240) + b1 - 128) + b2 - 128) + b3 - 128 = b0 % 8 * 262144 + b1 % 64 * 4096 + b2 % 64 * 64 + b3 % 64 := by omega
    rw [e]
    generalize b0 % 8 * 262144 + b1 % 64 * 4096 + b2 % 64 * 64 + b3 % 64 = v
    unfold fin
    by_cases d : v ≥ 65536 ∧ (v < 55296 ∨ (57344 ≤ v ∧ v ≤ 1114111))
    · rw [if_pos d, if_neg (by omega), if_neg (by simp only [Prod.mk.injEq]; omega)]
    · rw [if_neg d, if_pos (by omega), if_pos rfl]
theorem chrR_dec (n b0 b1 b2 b3 : Nat) (h0 : b0 < 256) (h1 : b1 < 256) (h2 : b2 < 256) (h3 : b3 < 256) :
    chrR n b0 b1 b2 b3 = if decodeN n b0 b1 b2 b3 = (65533, 1) then (0, 0) else decodeN n b0 b1 b2 b3 := by
  by_cases c1 : b0 < 128
  · have e : decodeN n b0 b1 b2 b3 = (b0, 1) := by unfold decodeN; rw [if_pos c1]
    rw [e, if_neg (by simp only [Prod.mk.injEq]; omega)]
    unfold chrR; rw [if_pos c1]
  by_cases c2 : 194 ≤ b0 ∧ b0 < 224
  · exact chr_two n b0 b1 b2 b3 h1 c2
  by_cases c3 : 224 ≤ b0 ∧ b0 < 240
  · exact chr_three n b0 b1 b2 b3 h1 h2 c3
  by_cases c4 : 240 ≤ b0 ∧ b0 < 245
  · exact chr_four n b0 b1 b2 b3 h1 h2 h3 c4
  have e : decodeN n b0 b1 b2 b3 = (65533, 1) := by
    unfold decodeN
    rw [if_neg c1]
    by_cases d : b0 / 32 = 6 ∧ (1 < n ∧ b1 / 64 = 2)
    · rw [if_pos d, if_neg (by omega)]
    · rw [if_neg d, if_neg (by omega)]
      by_cases f : b0 / 8 = 30 ∧ (1 < n ∧ b1 / 64 = 2) ∧ (2 < n ∧ b2 / 64 = 2) ∧ (3 < n ∧ b3 / 64 = 2)
      · rw [if_pos f, if_neg (by omega)]
      · rw [if_neg f]
  rw [e, if_pos rfl]
  unfold chrR
  rw [if_neg c1, if_neg c2, if_neg c3, if_neg c4]
/-- the character at the front of a text -/
def chr (l : List UInt8) : Nat × Nat := if l = [] then (0, 0) else if decodeL l = (65533, 1) then (0, 0) else decodeL l
theorem chr_R (l : List UInt8) (h : l ≠ []) : chr l = chrR l.length (l.getD 0 0).toNat (l.getD 1 0).toNat (l.getD 2 0).toNat (l.getD 3 0).toNat := by
  rw [chr, if_neg h, chrR_dec _ _ _ _ _ (UInt8.toNat_lt _) (UInt8.toNat_lt _) (UInt8.toNat_lt _) (UInt8.toNat_lt _), ← decodeL_N]
theorem chr_le (l : List UInt8) : (chr l).2 ≤ l.length := by
  unfold chr
  split
  · exact Nat.zero_le _
  · rename_i h
    split
    · exact Nat.zero_le _
    · exact decodeL_le l h
theorem chr_ascii (b : UInt8) (l : List UInt8) (h : b.toNat < 128) : chr (b :: l) = (b.toNat, 1) := by
  rw [chr_R _ (by simp), chrR, if_pos (by simpa using h)]
  simp
theorem fin_two {low c n : Nat} (h : (fin low c n).2 ≠ 0) : fin low c n = (c, n) := by
  unfold fin at h ⊢
  split
  · rename_i q; rw [if_pos q] at h; exact absurd rfl h
  · rfl
theorem chrR_bytes {n b0 b1 b2 b3 : Nat} (hn : (chrR n b0 b1 b2 b3).2 ≠ 0) : (b0 < 128 ∧ chrR n b0 b1 b2 b3 = (b0, 1)) ∨ ((chrR n b0 b1 b2 b3).2 = 2 ∧ 128 ≤ b0 ∧ 128 ≤ b1) ∨
    ((chrR n b0 b1 b2 b3).2 = 3 ∧ 128 ≤ b0 ∧ 128 ≤ b1 ∧ 128 ≤ b2) ∨ ((chrR n b0 b1 b2 b3).2 = 4 ∧ 128 ≤ b0 ∧ 128 ≤ b1 ∧ 128 ≤ b2 ∧ 128 ≤ b3) := by
  unfold chrR at hn ⊢
  by_cases c1 : b0 < 128
  · rw [if_pos c1]; exact .inl ⟨c1, rfl⟩
  rw [if_neg c1] at hn ⊢
  right
  by_cases c2 : 194 ≤ b0 ∧ b0 < 224
  · rw [if_pos c2] at hn ⊢
    by_cases d : n < 2 ∨ (b1 < 128 ∨ 191 < b1)
    · rw [if_pos d] at hn; exact absurd rfl hn
    · rw [if_neg d] at hn ⊢
      rw [fin_two hn]
      exact .inl ⟨rfl, by omega, by omega⟩
  rw [if_neg c2] at hn ⊢
  by_cases c3 : 224 ≤ b0 ∧ b0 < 240
  · rw [if_pos c3] at hn ⊢
    by_cases d : n < 3 ∨ (b1 < 128 ∨ 191 < b1) ∨ (b2 < 128 ∨ 191 < b2)
    · rw [if_pos d] at hn; exact absurd rfl hn
    · rw [if_neg d] at hn ⊢
      rw [fin_two hn]
      exact .inr (.inl ⟨rfl, by omega, by omega, by omega⟩)
  rw [if_neg c3] at hn ⊢
  by_cases c4 : 240 ≤ b0 ∧ b0 < 245
  · rw [if_pos c4] at hn ⊢
    by_cases d : n < 4 ∨ (b1 < 128 ∨ 191 < b1) ∨ (b2 < 128 ∨ 191 < b2) ∨ (b3 < 128 ∨ 191 < b3)
    · rw [if_pos d] at hn; exact absurd rfl hn
    · rw [if_neg d] at hn ⊢
      rw [fin_two hn]
      exact .inr (.inr ⟨rfl, by omega, by omega, by omega, by omega⟩)
  rw [if_neg c4] at hn
  exact absurd rfl hn
/-- a character of one byte is that byte; of all others each byte is 128 or more -/
theorem chr_bytes (l : List UInt8) (h : l ≠ []) (hn : (chr l).2 ≠ 0) : ((chr l).2 = 1 ∧ (chr l).1 = (l.getD 0 0).toNat ∧ (l.getD 0 0).toNat < 128) ∨ (2 ≤ (chr l).2 ∧ ∀ j, j < (chr l).2 → 128 ≤ (l.getD j 0).toNat) := by
  have hr := chr_R l h
  rw [hr] at hn ⊢
  rcases chrR_bytes hn with ⟨h1, e⟩ | ⟨e, h1, h2⟩ | ⟨e, h1, h2, h3⟩ | ⟨e, h1, h2, h3, h4⟩
  · rw [e]; exact .inl ⟨rfl, rfl, h1⟩
  · refine .inr ⟨by omega, fun j hj => ?_⟩
    rw [e] at hj
    match j, hj with
    | 0, _ => exact h1
    | 1, _ => exact h2
  · refine .inr ⟨by omega, fun j hj => ?_⟩
    rw [e] at hj
    match j, hj with
    | 0, _ => exact h1
    | 1, _ => exact h2
    | 2, _ => exact h3
  · refine .inr ⟨by omega, fun j hj => ?_⟩
    rw [e] at hj
    match j, hj with
    | 0, _ => exact h1
    | 1, _ => exact h2
    | 2, _ => exact h3
    | 3, _ => exact h4
/-- the characters of a text; none: it is not UTF-8 -/
def charsF : Nat → List UInt8 → Option (List Nat)
  | 0, l => if l = [] then some [] else none
  | k + 1, l => if l = [] then some [] else if (chr l).2 = 0 then none else (charsF k (l.drop (chr l).2)).map ((chr l).1 :: ·)
def chars (l : List UInt8) : Option (List Nat) := charsF l.length l
theorem charsF_more : ∀ (k m : Nat) (l : List UInt8), l.length ≤ k → l.length ≤ m → charsF k l = charsF m l
  | k, m, [], _, _ => by cases k <;> cases m <;> simp [charsF]
  | 0, _, b :: l, h, _ => by simp at h
  | _, 0, b :: l, _, h => by simp at h
  | k + 1, m + 1, b :: l, h1, h2 => by
    have q : ¬ (b :: l = []) := by simp
    by_cases c : (chr (b :: l)).2 = 0
    · simp only [charsF, if_neg q, if_pos c]
    · simp only [charsF, if_neg q, if_neg c]
      congr 1
      have hd : ((b :: l).drop (chr (b :: l)).2).length ≤ l.length := by rw [List.length_drop, List.length_cons]; omega
      simp only [List.length_cons] at h1 h2
      exact charsF_more k m _ (by omega) (by omega)
theorem chars_nil : chars [] = some [] := rfl
theorem chars_step (l : List UInt8) (h : l ≠ []) : chars l = if (chr l).2 = 0 then none else (chars (l.drop (chr l).2)).map ((chr l).1 :: ·) := by
  obtain ⟨b, r, rfl⟩ : ∃ b r, l = b :: r := by
    cases l with
    | nil => exact absurd rfl h
    | cons b r => exact ⟨b, r, rfl⟩
  rw [chars, List.length_cons, charsF, if_neg (by simp)]
  by_cases c : (chr (b :: r)).2 = 0
  · rw [if_pos c, if_pos c]
  · rw [if_neg c, if_neg c]
    congr 1
    refine charsF_more _ _ _ ?_ (Nat.le_refl _)
    rw [List.length_drop, List.length_cons]
    omega
theorem chars_ind {p : List UInt8 → Prop} (h0 : p []) (hs : ∀ l, l ≠ [] → ((chr l).2 ≠ 0 → p (l.drop (chr l).2)) → p l) (l : List UInt8) : p l := by
  have key : ∀ (k : Nat) (l : List UInt8), l.length ≤ k → p l := by
    intro k
    induction k with
    | zero => intro l hl; rw [List.length_eq_zero_iff.1 (Nat.le_zero.1 hl)]; exact h0
    | succ k ih =>
      intro l hl
      by_cases e : l = []
      · rw [e]; exact h0
      · exact hs l e fun hn => ih _ (by rw [List.length_drop]; have := List.length_pos_iff.2 e; omega)
  exact key _ l (Nat.le_refl _)
/-- a byte below 128 is a character -/
theorem chars_byte (b : UInt8) (hb : b.toNat < 128) : ∀ (l : List UInt8) (cs : List Nat), chars l = some cs → b ∈ l → b.toNat ∈ cs := by
  intro l
  induction l using chars_ind with
  | h0 => intro cs _ h; simp at h
  | hs l hne ih =>
    intro cs hc hm
    rw [chars_step l hne] at hc
    by_cases c : (chr l).2 = 0
    · rw [if_pos c] at hc; cases hc
    rw [if_neg c] at hc
    obtain ⟨ds, hd, rfl⟩ := Option.map_eq_some_iff.1 hc
    rw [← List.take_append_drop (chr l).2 l] at hm
    rcases List.mem_append.1 hm with hm | hm
    · obtain ⟨j, hj, e⟩ := List.getElem_of_mem hm
      rw [List.length_take] at hj
      rw [List.getElem_take] at e
      have hg : l.getD j 0 = b := by rw [List.getD_eq_getElem?_getD, List.getElem?_eq_getElem (by omega), e]; rfl
      rcases chr_bytes l hne c with ⟨h1, h2, _⟩ | ⟨_, h2⟩
      · obtain rfl : j = 0 := by omega
        rw [hg] at h2
        rw [h2]; exact List.mem_cons_self
      · have := h2 j (by omega)
        rw [hg] at this
        omega
    · exact List.mem_cons_of_mem _ (ih c ds hd hm)
theorem chars_empty (l : List UInt8) : chars l = some [] ↔ l = [] := by
  constructor
  · intro h
    by_cases e : l = []
    · exact e
    · rw [chars_step l e] at h
      split at h
      · cases h
      · obtain ⟨_, _, q⟩ := Option.map_eq_some_iff.1 h
        cases q
  · rintro rfl; rfl
/-- P36 -/
def nm (s : List UInt8) : Int :=
  match chars s with
  | none => 8
  | some l => if l = [] ∨ s = [46] ∨ s = [46, 46] then 8 else if l.any (fun c => decide (c = 47 ∨ c < 32 ∨ c = 127)) then 8 else if 24 < l.length then 2 else 0
theorem nm_ok {s : List UInt8} (h : nm s = 0) : s ≠ [] ∧ s ≠ [46] ∧ s ≠ [46, 46] ∧ (47 : UInt8) ∉ s := by
  unfold nm at h
  cases hc : chars s with
  | none => rw [hc] at h; simp at h
  | some l =>
    rw [hc] at h
    dsimp only at h
    split at h
    · simp at h
    rename_i q
    split at h
    · simp at h
    rename_i r
    simp only [not_or] at q
    refine ⟨fun e => q.1 (Option.some.inj (hc.symm.trans ((chars_empty s).2 e))), q.2.1, q.2.2, fun hm => ?_⟩
    have := chars_byte 47 (by decide) s l hc hm
    exact r (List.any_eq_true.2 ⟨47, this, by simp⟩)
theorem fin_le {low c n : Nat} (hn : n ≤ 4) : (fin low c n).2 ≤ 4 := by
  unfold fin; split
  · exact Nat.zero_le _
  · exact hn
theorem chrR_four (n b0 b1 b2 b3 : Nat) : (chrR n b0 b1 b2 b3).2 ≤ 4 := by
  unfold chrR
  repeat' split
  all_goals first | exact fin_le (by omega) | simp
theorem chr_four_le (l : List UInt8) : (chr l).2 ≤ 4 := by
  by_cases h : l = []
  · subst h; decide
  · rw [chr_R l h]; exact chrR_four ..
theorem chars_long (l : List UInt8) : ∀ cs, chars l = some cs → l.length ≤ 4 * cs.length := by
  induction l using chars_ind with
  | h0 => intro cs _; simp
  | hs l hne ih =>
    intro cs h
    rw [chars_step l hne] at h
    split at h
    · cases h
    rename_i hz
    obtain ⟨r, h2, rfl⟩ := Option.map_eq_some_iff.1 h
    have := ih hz r h2
    have h4 := chr_four_le l
    rw [List.length_drop] at this
    simp only [List.length_cons]
    omega
theorem nm_long {s : List UInt8} (h : nm s = 0) : s.length ≤ 96 := by
  unfold nm at h
  cases hc : chars s with
  | none => rw [hc] at h; simp at h
  | some l =>
    rw [hc] at h
    dsimp only at h
    split at h
    · simp at h
    split at h
    · simp at h
    split at h
    · simp at h
    have := chars_long s l hc
    omega
end Nn
end Go.Proofs.YtcgecafajgoeeaaDoor
