/-
  P19's lengths (no program in it): who is there has one, the whole is filled, more frequent is no longer, no total is smaller.
  P21, P22 (no Go in it): the two forms, what Open says of whatever stands there, and that the coded form is opened as it was.
  What readToken of package lz answers.
  What appendBytes of package lz answers: the bytes made so far, and this token's.
  What Expand of package lz answers.
  What Read of package lz answers.
  What readNumber of package press answers.
  What readLengths of package press answers.
  What Put, PutInt, PutFloat of package num answer.
  What countBytes and appendNumber of package press answer.
  Where a slice lies behind append; what appendNumber of package pack answers.
  What appendNumber and seal of package pack answer.
  What appendLengths of package press answers.
-/
import Derived.Test.YtkhejelmjkpgfaaG3
import Derived.Test.YtkhejelmjkpgfaaG2
import Derived.Test.YtkhejelmjkpgfaaG0
import Derived.Test.YtkhejelmjkpgfaaG1
import Derived.Laws.BitsAllLaws
import Derived.Lib.AppendStr
import Derived.Maps.AppendAt
import Derived.Deep.MidRow
import Derived.Laws.AppendOwnNone

namespace Go.Proofs.Ytkhejelmjkpgfaa
namespace Hf

theorem Run.absent {H : List Hp} {L : Nat → Nat} (h : Run H L) {i : Nat} (hi : ∀ x ∈ H, x.mem i = false) : L i = 0 := by
  induction h using Run.ind with
  | one y => rfl
  | @step H R a b L hp ha hb h ih =>
    have h1 := hi a (hp.mem_iff.2 List.mem_cons_self)
    have h2 := hi b (hp.mem_iff.2 (List.mem_cons_of_mem _ List.mem_cons_self))
    have h3 := ih fun x hx => by
      rcases List.mem_cons.1 hx with rfl | hx
      · show (a.mem i || b.mem i) = false
        rw [h1, h2]; rfl
      · exact hi x (hp.mem_iff.2 (List.mem_cons_of_mem _ (List.mem_cons_of_mem _ hx)))
    show (if a.mem i || b.mem i then 1 else 0) + L i = 0
    rw [h1, h2, h3]
    rfl
/-- signs that are there, with their lengths -/
def pairs (F l : List Nat) (k : Nat) : Ps := (init F k).map fun x => (x.1, l.getD x.2.1 0)
theorem pairs_succ (F l : List Nat) (k : Nat) : pairs F l (k + 1) = pairs F l k ++ if 0 < F.getD k 0 then [(F.getD k 0, l.getD k 0)] else [] := by
  unfold pairs
  rw [init_succ, List.map_append]
  by_cases h : 0 < F.getD k 0
  · rw [if_pos h, if_pos h]; rfl
  · rw [if_neg h, if_neg h]; rfl
theorem pairs_kr (F l : List Nat) (k : Nat) : kr 48 (pairs F l k) = sumIf (List.range k) (fun j => 2 ^ (48 - l.getD j 0)) (fun j => decide (0 < F.getD j 0)) := by
  induction k with
  | zero => rfl
  | succ k ih =>
    rw [pairs_succ, sumIf_succ, ← ih]
    unfold kr
    rw [List.map_append, List.sum_append]
    congr 1
    by_cases h : 0 < F.getD k 0
    · rw [if_pos h, if_pos (by simpa using h)]; simp
    · rw [if_neg h, if_neg (by simpa using h)]; rfl
/-- the total of the first k -/
def tot (F l : List Nat) (k : Nat) : Nat := ((List.range k).map fun i => F.getD i 0 * l.getD i 0).sum
theorem tot_succ (F l : List Nat) (k : Nat) : tot F l (k + 1) = tot F l k + F.getD k 0 * l.getD k 0 := by
  unfold tot
  rw [List.range_succ, List.map_append, List.sum_append]
  simp
theorem pairs_cost (F l : List Nat) (k : Nat) : cost (pairs F l k) = tot F l k := by
  induction k with
  | zero => rfl
  | succ k ih =>
    rw [pairs_succ, tot_succ, ← ih]
    unfold cost
    rw [List.map_append, List.sum_append]
    congr 1
    by_cases h : 0 < F.getD k 0
    · rw [if_pos h]; simp
    · rw [if_neg h, show F.getD k 0 = 0 by omega, Nat.zero_mul]; rfl
theorem pairs_fst (F l m : List Nat) (k : Nat) : (pairs F l k).map (·.1) = (pairs F m k).map (·.1) := by
  unfold pairs
  rw [List.map_map, List.map_map]
  rfl
theorem init_of {F : List Nat} {k i : Nat} (hi : i < k) (h : 0 < F.getD i 0) : (F.getD i 0, i, [i]) ∈ init F k :=
  List.mem_filterMap.2 ⟨i, List.mem_range.2 hi, if_pos h⟩
theorem two_out {α : Type} {l : List α} {a b : α} (ha : a ∈ l) (hb : b ∈ l) (hne : b ≠ a) : ∃ R, l.Perm (a :: b :: R) := by
  obtain ⟨s, t, rfl⟩ := List.append_of_mem ha
  have hb' : b ∈ s ++ t := by
    rcases List.mem_append.1 hb with h | h
    · exact List.mem_append_left _ h
    · rcases List.mem_cons.1 h with h | h
      · exact absurd h hne
      · exact List.mem_append_right _ h
  obtain ⟨s', t', e⟩ := List.append_of_mem hb'
  refine ⟨s' ++ t', ?_⟩
  refine List.perm_middle.trans (List.Perm.cons _ ?_)
  rw [e]
  exact List.perm_middle
/-- all that there is to say of more than one sign -/
structure Two (F out : List Nat) : Prop where
  hp : HP (pairs F out F.length)
  absent : ∀ i, F.getD i 0 = 0 → out.getD i 0 = 0
theorem HL.two {F out : List Nat} (h : HL F out) (h2 : F.length ≤ 256) (h3 : ∀ n ∈ F, n ≤ 1048576) (h4 : 2 ≤ (init F F.length).length) : Two F out := by
  have hr := h.more h4
  have hst := (Inv.start h2 h3).st
  have hA : Apart (H0 F) := by
    refine ⟨fun x hx => ?_, ?_⟩
    · obtain ⟨y, hy, rfl⟩ := List.mem_map.1 hx
      exact decide_eq_true (hst.low y hy)
    · unfold H0
      rw [List.pairwise_map]
      have hn := hst.nodup
      unfold List.Nodup at hn
      rw [List.pairwise_flatMap] at hn
      refine hn.2.imp fun hab i ⟨h1, h2⟩ => ?_
      exact hab i (of_decide_eq_true h1) i (of_decide_eq_true h2) rfl
  refine ⟨?_, fun i hi => hr.absent fun x hx => ?_⟩
  · have := hr.hp hA
    unfold H0 at this
    rw [List.map_map] at this
    exact this
  · obtain ⟨y, hy, rfl⟩ := List.mem_map.1 hx
    obtain ⟨j, hj, hj0, rfl⟩ := init_mem hy
    refine decide_eq_false fun hm => ?_
    have : i = j := List.mem_singleton.1 hm
    subst this
    omega
theorem Two.le40 {F out : List Nat} (h : Two F out) (h2 : F.length ≤ 256) (h3 : ∀ n ∈ F, n ≤ 1048576) : ∀ x ∈ pairs F out F.length, x.2 ≤ 40 := by
  refine h.hp.bound (fun x hx => ?_) ?_
  · obtain ⟨y, hy, rfl⟩ := List.mem_map.1 hx
    obtain ⟨j, _, hj0, rfl⟩ := init_mem hy
    exact hj0
  · have := (Inv.start h2 h3).st.wt
    unfold pairs
    rw [List.map_map]
    exact this
theorem mem_pairs {F l : List Nat} {k i : Nat} (hi : i < k) (h : 0 < F.getD i 0) : (F.getD i 0, l.getD i 0) ∈ pairs F l k := List.mem_map.2 ⟨_, init_of hi h, rfl⟩
theorem getD_out {l : List Nat} {i : Nat} (h : l.length ≤ i) : l.getD i 0 = 0 := by
  rw [List.getD_eq_getElem?_getD, List.getElem?_eq_none h]
  rfl
theorem getD_rep (n i : Nat) : (List.replicate n 0).getD i 0 = 0 := by
  rw [List.getD_eq_getElem?_getD]
  cases e : (List.replicate n 0)[i]? with
  | none => rfl
  | some x => exact List.eq_of_mem_replicate (List.mem_of_getElem? e)
theorem HL.le48 {F out : List Nat} (h : HL F out) (h2 : F.length ≤ 256) (h3 : ∀ n ∈ F, n ≤ 1048576) : ∀ n ∈ out, n ≤ 48 := by
  have key : ∀ i, out.getD i 0 ≤ 48 := by
    intro i
    rcases (show (init F F.length).length = 0 ∨ (init F F.length).length = 1 ∨ 2 ≤ (init F F.length).length by omega) with e | e | e
    · rw [h.none e, getD_rep]; omega
    · obtain ⟨x, hx⟩ := List.length_eq_one_iff.1 e
      obtain ⟨j, hj, _, rfl⟩ := init_mem (show x ∈ init F F.length by rw [hx]; exact List.mem_cons_self)
      rw [h.one _ hx, getD_set _ _ _ _ (by simpa using hj), getD_rep]
      split <;> omega
    · have ht := h.two h2 h3 e
      by_cases h0 : 0 < F.getD i 0
      · have hi : i < F.length := by
          apply Classical.byContradiction
          intro hn
          rw [getD_out (by omega)] at h0
          omega
        have := ht.le40 h2 h3 _ (mem_pairs (l := out) hi h0)
        dsimp only at this
        omega
      · rw [ht.absent i (by omega)]; omega
  intro n hn
  obtain ⟨i, hi, rfl⟩ := List.getElem_of_mem hn
  have := key i
  rw [List.getD_eq_getElem?_getD, List.getElem?_eq_getElem hi] at this
  exact this
/-- who is there has a length, who isn't has none -/
theorem HL.there {F out : List Nat} (h : HL F out) (h2 : F.length ≤ 256) (h3 : ∀ n ∈ F, n ≤ 1048576) (i : Nat) : 0 < F.getD i 0 ↔ 0 < out.getD i 0 := by
  by_cases hi : i < F.length
  · rcases (show (init F F.length).length = 0 ∨ (init F F.length).length = 1 ∨ 2 ≤ (init F F.length).length by omega) with e | e | e
    · rw [h.none e, getD_rep]
      refine ⟨fun h0 => ?_, fun h0 => by omega⟩
      have := List.length_pos_of_mem (init_of hi h0)
      omega
    · obtain ⟨x, hx⟩ := List.length_eq_one_iff.1 e
      obtain ⟨j, hj, hj0, rfl⟩ := init_mem (show x ∈ init F F.length by rw [hx]; exact List.mem_cons_self)
      rw [h.one _ hx, getD_set _ _ _ _ (by simpa using hj), getD_rep]
      by_cases e2 : j = i
      · subst e2
        rw [if_pos rfl]
        exact ⟨fun _ => by omega, fun _ => hj0⟩
      · rw [if_neg e2]
        refine ⟨fun h0 => ?_, fun h0 => by omega⟩
        have := init_of hi h0
        rw [hx] at this
        have := List.mem_singleton.1 this
        simp at this
        omega
    · have ht := h.two h2 h3 e
      refine ⟨fun h0 => ?_, fun h0 => ?_⟩
      · apply Classical.byContradiction
        intro hn
        have hz : out.getD i 0 = 0 := by omega
        have hk := ht.hp.kraft 48 (fun x hx => by have := ht.le40 h2 h3 x hx; omega)
        have hl : 2 ≤ (pairs F out F.length).length := by unfold pairs; rw [List.length_map]; exact e
        obtain ⟨s, t, ep⟩ := List.append_of_mem (mem_pairs (l := out) hi h0)
        rw [ep] at hk hl
        rw [kr_perm List.perm_middle, kr_cons, hz] at hk
        have hl2 : 0 < (s ++ t).length := by simp at hl ⊢; omega
        cases es : s ++ t with
        | nil => rw [es] at hl2; simp at hl2
        | cons y r =>
          rw [es, kr_cons] at hk
          have := Nat.two_pow_pos (48 - y.2)
          dsimp only at hk
          rw [Nat.sub_zero] at hk
          omega
      · apply Classical.byContradiction
        intro hn
        have := ht.absent i (by omega)
        omega
  · rw [getD_out (by omega), getD_out (by rw [h.len]; omega)]
/-- the whole is filled -/
theorem HL.ksum {F out : List Nat} (h : HL F out) (h2 : F.length ≤ 256) (h3 : ∀ n ∈ F, n ≤ 1048576) :
    ksum out = if (init F F.length).length = 0 then 0 else if (init F F.length).length = 1 then 140737488355328 else 281474976710656 := by
  have e0 : Hf.ksum out = kr 48 (pairs F out F.length) := by
    rw [pairs_kr]
    unfold Hf.ksum
    rw [h.len]
    exact sumIf_congr fun j _ => decide_eq_decide.2 (h.there h2 h3 j).symm
  rw [e0]
  rcases (show (init F F.length).length = 0 ∨ (init F F.length).length = 1 ∨ 2 ≤ (init F F.length).length by omega) with e | e | e
  · rw [if_pos e]
    unfold pairs
    rw [List.length_eq_zero_iff.1 e]
    rfl
  · rw [if_neg (by omega), if_pos e]
    obtain ⟨x, hx⟩ := List.length_eq_one_iff.1 e
    obtain ⟨j, hj, hj0, rfl⟩ := init_mem (show x ∈ init F F.length by rw [hx]; exact List.mem_cons_self)
    unfold pairs
    rw [hx]
    have : out.getD j 0 = 1 := by rw [h.one _ hx, getD_set _ _ _ _ (by simpa using hj), if_pos rfl]
    simp only [List.map_cons, List.map_nil, kr_cons, this]
    rfl
  · rw [if_neg (by omega), if_neg (by omega)]
    have ht := h.two h2 h3 e
    rw [ht.hp.kraft 48 (fun x hx => by have := ht.le40 h2 h3 x hx; omega)]
theorem HL.order {F out : List Nat} (h : HL F out) (h2 : F.length ≤ 256) (h3 : ∀ n ∈ F, n ≤ 1048576) {i j : Nat} (hi : i < F.length) (hj : j < F.length) (h0 : 0 < F.getD j 0) (hlt : F.getD j 0 < F.getD i 0) : out.getD i 0 ≤ out.getD j 0 := by
  have hne : (F.getD i 0, i, [i]) ≠ (F.getD j 0, j, [j]) := fun e => by simp at e; simp at hlt; omega
  have hi' := init_of hi (by omega : 0 < F.getD i 0)
  have hj' := init_of hj h0
  have e : 2 ≤ (init F F.length).length := by
    obtain ⟨R, hR⟩ := two_out hj' hi' hne
    rw [hR.length_eq]
    simp
  have ht := h.two h2 h3 e
  obtain ⟨R, hR⟩ := two_out hj' hi' hne
  have := hR.map fun x : Ab => (x.1, out.getD x.2.1 0)
  exact ht.hp.order 48 (fun x hx => by have := ht.le40 h2 h3 x hx; omega) this hlt
theorem HL.least {F out M : List Nat} (h : HL F out) (h2 : F.length ≤ 256) (h3 : ∀ n ∈ F, n ≤ 1048576) (hM : M.length = F.length) (hM48 : ∀ n ∈ M, n ≤ 48) (hk : Hf.ksum M ≤ 281474976710656) (hm : ∀ i, 0 < F.getD i 0 → 0 < M.getD i 0) : tot F out F.length ≤ tot F M F.length := by
  rw [← pairs_cost, ← pairs_cost]
  rcases (show (init F F.length).length = 0 ∨ (init F F.length).length = 1 ∨ 2 ≤ (init F F.length).length by omega) with e | e | e
  · unfold pairs
    rw [List.length_eq_zero_iff.1 e]
    exact Nat.le_refl _
  · obtain ⟨x, hx⟩ := List.length_eq_one_iff.1 e
    obtain ⟨j, hj, hj0, rfl⟩ := init_mem (show x ∈ init F F.length by rw [hx]; exact List.mem_cons_self)
    have e1 : out.getD j 0 = 1 := by rw [h.one _ hx, getD_set _ _ _ _ (by simpa using hj), if_pos rfl]
    have e2 := hm j hj0
    unfold pairs
    rw [hx]
    simp only [List.map_cons, List.map_nil, cost_cons, e1]
    exact Nat.add_le_add_right (Nat.mul_le_mul_left _ e2) _
  · have ht := h.two h2 h3 e
    refine ht.hp.least (by rw [pairs_fst F M out]) 48 (fun x hx => ?_) ?_
    · obtain ⟨y, _, rfl⟩ := List.mem_map.1 hx
      have : ∀ i, M.getD i 0 ≤ 48 := fun i => getD_le hM48 i
      exact this _
    · rw [pairs_kr]
      refine Nat.le_trans (sumIf_le (q := fun j => decide (0 < M.getD j 0)) fun j _ hj => by simp at hj ⊢; simpa using hm j (by simpa using hj)) ?_
      unfold Hf.ksum at hk
      rw [hM] at hk
      exact Nat.le_trans hk (by decide)
end Hf
end Go.Proofs.Ytkhejelmjkpgfaa

namespace Go.Proofs.Ytkhejelmjkpgfaa
namespace Pr

abbrev Bs := List UInt8
/-- how often each of the 256 bytes is there -/
def tally (T : Bs) : List Nat := (List.range 256).map fun i => T.countP fun b => b.toNat == i
theorem tally_length (T : Bs) : (tally T).length = 256 := by simp [tally]
theorem tally_get (T : Bs) {i : Nat} (h : i < 256) : (tally T).getD i 0 = T.countP fun b => b.toNat == i := by
  rw [List.getD_eq_getElem?_getD, tally, List.getElem?_map, List.getElem?_range h]
  rfl
theorem tally_le (T : Bs) : ∀ n ∈ tally T, n ≤ T.length := by
  intro n hn
  obtain ⟨i, _, rfl⟩ := List.mem_map.1 hn
  exact List.countP_le_length
theorem tally_there {T : Bs} {b : UInt8} (h : b ∈ T) : 0 < (tally T).getD b.toNat 0 := by
  rw [tally_get T b.toNat_lt]
  exact List.countP_pos_iff.2 ⟨b, h, by simp⟩
theorem tally_snoc (T : Bs) (b : UInt8) : tally (T ++ [b]) = (tally T).set b.toNat ((tally T).getD b.toNat 0 + 1) := by
  have hb : b.toNat < 256 := b.toNat_lt
  refine List.ext_getElem? fun i => ?_
  rw [tally_get T hb, List.getElem?_set, tally_length]
  unfold tally
  by_cases hi : i < 256
  · rw [List.getElem?_map, List.getElem?_range hi, List.getElem?_map, List.getElem?_range hi]
    simp only [Option.map_some, List.countP_append, List.countP_singleton]
    by_cases e : b.toNat = i
    · subst e
      simp [hb]
    · have : (b.toNat == i) = false := by simpa using e
      simp [this, e]
  · rw [List.getElem?_eq_none (by simp; omega), List.getElem?_eq_none (by simp; omega), if_neg (by omega)]
/-- the bytes that are there, each with its length -/
def headFrom (l : List Nat) (k : Nat) : Nat → Bs
  | 0 => []
  | n + 1 => if 0 < l.getD k 0 then UInt8.ofNat k :: UInt8.ofNat (l.getD k 0) :: headFrom l (k + 1) n else headFrom l (k + 1) n
def manyFrom (l : List Nat) (k : Nat) : Nat → Nat
  | 0 => 0
  | n + 1 => if 0 < l.getD k 0 then manyFrom l (k + 1) n + 1 else manyFrom l (k + 1) n
theorem many_le (l : List Nat) (k n : Nat) : manyFrom l k n ≤ n := by
  induction n generalizing k with
  | zero => exact Nat.le_refl _
  | succ n ih =>
    rw [manyFrom]
    have := ih (k + 1)
    split <;> omega
theorem head_length (l : List Nat) (k n : Nat) : (headFrom l k n).length = 2 * manyFrom l k n := by
  induction n generalizing k with
  | zero => rfl
  | succ n ih =>
    rw [manyFrom, headFrom]
    split
    · rw [List.length_cons, List.length_cons, ih]; omega
    · exact ih _
/-- so many bytes with their lengths, rising; 3 and 4 where they are not -/
def pairs : Nat → Int → List Nat → Bs → List Nat × Bs × Int
  | 0, _, wide, s => (wide, s, 0)
  | n + 1, p, wide, a :: b :: s => if (a.toNat : Int) ≤ p ∨ b.toNat = 0 ∨ 48 < b.toNat then ([], [], 4) else pairs n a.toNat (wide.set a.toNat b.toNat) s
  | _ + 1, _, _, _ => ([], [], 3)
theorem pairs_head {l : List Nat} (h48 : ∀ i, l.getD i 0 ≤ 48) (hl : l.length = 256) (r : Bs) (n k : Nat) (hk : k + n = 256) (p : Int) (hp : p < k) :
    pairs (manyFrom l k n) p (l.take k ++ List.replicate n 0) (headFrom l k n ++ r) = (l, r, 0) := by
  induction n generalizing k p with
  | zero =>
    obtain rfl : k = 256 := by omega
    rw [manyFrom, headFrom, pairs, ← hl, List.take_length, List.replicate_zero, List.append_nil]
    rfl
  | succ n ih =>
    have hkl : k < l.length := by omega
    have ht : l.take (k + 1) = l.take k ++ [l.getD k 0] := by
      rw [List.take_add_one, List.getD_eq_getElem?_getD, List.getElem?_eq_getElem hkl]
      rfl
    have h8 := h48 k
    rw [manyFrom, headFrom]
    split
    · rename_i h0
      have e1 : (UInt8.ofNat k).toNat = k := by rw [UInt8.toNat_ofNat']; omega
      have e2 : (UInt8.ofNat (l.getD k 0)).toNat = l.getD k 0 := by rw [UInt8.toNat_ofNat']; omega
      rw [List.cons_append, List.cons_append, pairs, e1, e2, if_neg (by omega)]
      have hlt : (l.take k).length = k := by rw [List.length_take]; omega
      rw [List.set_append_right k _ (by rw [hlt]; exact Nat.le_refl _), hlt, Nat.sub_self, List.replicate_succ, List.set_cons_zero]
      have := ih (k + 1) (by omega) k (by omega)
      rw [ht, List.append_assoc] at this
      exact this
    · rename_i h0
      have := ih (k + 1) (by omega) p (by omega)
      rw [ht, show l.getD k 0 = 0 by omega, List.append_assoc] at this
      exact this
/-- numbers, each up to its most -/
def nums : List Nat → Bs → List Nat × Bs × Int
  | [], s => ([], s, 0)
  | m :: ms, s => if (Nm.getN s).2.2 ≠ 0 then ([], [], (Nm.getN s).2.2) else if m < (Nm.getN s).1 then ([], [], 2) else
    if (nums ms (s.drop (Nm.getN s).2.1)).2.2 ≠ 0 then ([], [], (nums ms (s.drop (Nm.getN s).2.1)).2.2) else
    ((Nm.getN s).1 :: (nums ms (s.drop (Nm.getN s).2.1)).1, (nums ms (s.drop (Nm.getN s).2.1)).2.1, 0)
theorem nums_put {m n : Nat} {ms ns : List Nat} {s r : Bs} (h : n ≤ m) (hm : n < 256 ^ 8) (hr : nums ms s = (ns, r, 0)) : nums (m :: ms) (Nm.put n ++ s) = (n :: ns, r, 0) := by
  rw [nums, Nm.get_put n s hm, if_neg (by simp), if_neg (by show ¬ m < n; omega)]
  simp only [List.drop_left, hr, ne_eq, not_true_eq_false, if_false]
def upB (t : List Nat) : Bs := t.map UInt8.ofNat
def dnB (t : Bs) : List Nat := t.map UInt8.toNat
theorem up_dn (t : Bs) : upB (dnB t) = t := by
  simp [upB, dnB, Function.comp_def]
theorem dn_up {t : List Nat} (h : ∀ n ∈ t, n < 256) : dnB (upB t) = t := by
  induction t with
  | nil => rfl
  | cons n t ih =>
    have := h n List.mem_cons_self
    show (UInt8.ofNat n).toNat :: dnB (upB t) = _
    rw [ih fun m hm => h m (List.mem_cons_of_mem _ hm), UInt8.toNat_ofNat', Nat.mod_eq_of_lt this]
/-- behind the tokens' text T: how many bytes there must be -/
def opT (n : Nat) (T : Bs) : Bs × Int :=
  if (Lz.rdA [] T).2 ≠ 0 then ([], (Lz.rdA [] T).2) else
  if (Lz.ex n [] (Lz.rdA [] T).1).2 ≠ 0 then ([], (Lz.ex n [] (Lz.rdA [] T).1).2) else
  if (Lz.ex n [] (Lz.rdA [] T).1).1.length < n then ([], 4) else ((Lz.ex n [] (Lz.rdA [] T).1).1, 0)
/-- behind the lengths -/
def opS (n m : Nat) (wide : List Nat) (s : Bs) : Bs × Int :=
  if 2 ^ 48 < Hf.ksum wide then ([], 4) else
  match signs wide m (bitsB (dnB s)) with
  | .inl true => ([], 4)
  | .inl false => ([], 3)
  | .inr (t, r) => if clean r then opT n (upB t) else ([], 4)
/-- behind a byte 1 -/
def opC (s : Bs) : Bs × Int :=
  if (nums [4096, 12288, 256] s).2.2 ≠ 0 then ([], (nums [4096, 12288, 256] s).2.2) else
  let n := (nums [4096, 12288, 256] s).1
  let p := pairs (n.getD 2 0) (-1) (List.replicate 256 0) (nums [4096, 12288, 256] s).2.1
  if p.2.2 ≠ 0 then ([], p.2.2) else opS (n.getD 0 0) (n.getD 1 0) p.1 p.2.1
def op : Bs → Bs × Int
  | [] => ([], 3)
  | a :: s => if a = 0 then (if 4096 < s.length then ([], 2) else (s, 0)) else if a = 1 then opC s else ([], 5)
theorem op_zero (s : Bs) : op (0 :: s) = if 4096 < s.length then ([], 2) else (s, 0) := rfl
theorem op_one (s : Bs) : op (1 :: s) = opC s := rfl
/-- the coded form, with the lengths -/
def T (s : Bs) : Bs := Lz.pack (Lz.greedy s)
def cod (s : Bs) (wide : List Nat) : Bs :=
  1 :: (Nm.put s.length ++ (Nm.put (T s).length ++ (Nm.put (manyFrom wide 0 256) ++ (headFrom wide 0 256 ++ upB (bytes (words wide (dnB (T s))))))))
def pr (s : Bs) (wide : List Nat) : Bs × Int := if 4096 < s.length then ([], 2) else if (cod s wide).length ≤ s.length then (cod s wide, 0) else (0 :: s, 0)
theorem pack_le (l : List Lz.Tk) : (Lz.pack l).length ≤ 3 * l.length := by
  induction l with
  | nil => exact Nat.le_refl _
  | cons t l ih =>
    have e : Lz.pack (t :: l) = t.text ++ Lz.pack l := by simp [Lz.pack]
    have : t.text.length ≤ 3 := by unfold Lz.Tk.text; split <;> simp
    rw [e, List.length_append, List.length_cons]
    omega
theorem T_le (s : Bs) : (T s).length ≤ 3 * s.length := by
  have h1 := pack_le (Lz.greedy s)
  have h2 := Lz.makes_length s _ 0 (Lz.makes_greedy s)
  unfold T
  omega
theorem opT_T {s : Bs} (h : s.length ≤ 4096) : opT s.length (T s) = (s, 0) := by
  have hm := Lz.makes_greedy s
  have hl := Lz.makes_length s _ 0 hm
  have e1 : Lz.rdA [] (T s) = (Lz.greedy s, 0) := by
    have := Lz.read_pack (Lz.greedy s) [] hm.good (by simp only [List.length_nil]; omega)
    simpa [T] using this
  have e2 : Lz.ex s.length [] (Lz.greedy s) = (s, 0) := by
    have := Lz.makes_ex (most := s.length) hm (Nat.le_refl _)
    simpa using this
  unfold opT
  rw [e1]
  simp only [e2, ne_eq, not_true_eq_false, if_false, Nat.lt_irrefl]
/-- the lengths of P19 for T have codes, and all that is in T has one -/
theorem good_of {F wide : List Nat} (h : Hf.HL F wide) (h2 : F.length ≤ 256) (h3 : ∀ n ∈ F, n ≤ 1048576) : Good wide := by
  refine ⟨Hf.getD_le (h.le48 h2 h3), ?_⟩
  rw [h.ksum h2 h3]
  split
  · exact Nat.zero_le _
  · split <;> decide
theorem opS_words {s : Bs} {wide : List Nat} (hs : s.length ≤ 4096) (h : Hf.HL (tally (T s)) wide) : opS s.length (T s).length wide (upB (bytes (words wide (dnB (T s))))) = (s, 0) := by
  have hT := T_le s
  have h3 : ∀ n ∈ tally (T s), n ≤ 1048576 := fun n hn => by have := tally_le _ n hn; omega
  have h2 : (tally (T s)).length ≤ 256 := by rw [tally_length]; exact Nat.le_refl _
  have g := good_of h h2 h3
  have hl : wide.length = 256 := by rw [h.len, tally_length]
  have hw : ∀ i ∈ dnB (T s), i < wide.length ∧ 0 < wide.getD i 0 := by
    intro i hi
    obtain ⟨b, hb, rfl⟩ := List.mem_map.1 hi
    exact ⟨by rw [hl]; exact b.toNat_lt, (h.there h2 h3 _).1 (tally_there hb)⟩
  have key := signs_bytes g hw
  rw [show (dnB (T s)).length = (T s).length by simp [dnB]] at key
  unfold opS
  rw [if_neg (by have := g.sum; omega), dn_up (bytes_lt _), key]
  simp only [clean_zs, if_true, up_dn]
  exact opT_T hs
theorem op_cod {s : Bs} {wide : List Nat} (hs : s.length ≤ 4096) (h : Hf.HL (tally (T s)) wide) : op (cod s wide) = (s, 0) := by
  have hT := T_le s
  have h3 : ∀ n ∈ tally (T s), n ≤ 1048576 := fun n hn => by have := tally_le _ n hn; omega
  have h2 : (tally (T s)).length ≤ 256 := by rw [tally_length]; exact Nat.le_refl _
  have g := good_of h h2 h3
  have hl : wide.length = 256 := by rw [h.len, tally_length]
  have hm := many_le wide 0 256
  have e := nums_put (m := 4096) (n := s.length) (s := _) hs (by omega) (nums_put (m := 12288) (n := (T s).length) (by omega) (by omega)
    (nums_put (m := 256) (n := manyFrom wide 0 256) hm (by omega) (show nums [] (headFrom wide 0 256 ++ upB (bytes (words wide (dnB (T s))))) = ([], _, 0) from rfl)))
  have hp := pairs_head g.le hl (upB (bytes (words wide (dnB (T s))))) 256 0 rfl (-1) (by omega)
  rw [List.take_zero, List.nil_append] at hp
  unfold cod
  rw [op_one]
  unfold opC
  rw [e]
  simp only [ne_eq, not_true_eq_false, if_false, List.getD_cons_zero, List.getD_cons_succ]
  rw [hp]
  simp only [not_true_eq_false, if_false]
  exact opS_words hs h
/-- what is pressed is opened as it was, and has at most one byte more -/
theorem op_pr {s : Bs} {wide : List Nat} (hs : s.length ≤ 4096) (h : Hf.HL (tally (T s)) wide) : (pr s wide).2 = 0 ∧ op (pr s wide).1 = (s, 0) ∧ (pr s wide).1.length ≤ 1 + s.length := by
  unfold pr
  rw [if_neg (by omega)]
  split
  · exact ⟨rfl, op_cod hs h, by show (cod s wide).length ≤ _; omega⟩
  · refine ⟨rfl, ?_, by show (0 :: s).length ≤ _; rw [List.length_cons]; omega⟩
    show op (0 :: s) = _
    rw [op_zero, if_neg (by omega)]
end Pr
end Go.Proofs.Ytkhejelmjkpgfaa

namespace Go.Proofs.Ytkhejelmjkpgfaa
open Go.RowKit
set_option maxRecDepth 4000

namespace Lz
/-- the first token: what it is, how many bytes it took, what is wrong with it -/
def rt : Bs → Tr × Nat × Nat
  | [] => (⟨0, 0, 0⟩, 0, 3)
  | [_] => (⟨0, 0, 0⟩, 0, 3)
  | [a, x] => if a = 0 then (⟨x, 0, 0⟩, 2, 0) else (⟨0, 0, 0⟩, 0, 3)
  | a :: x :: y :: _ => if a = 0 then (⟨x, 0, 0⟩, 2, 0) else
      if 1 ≤ x.toNat + 256 * y.toNat ∧ x.toNat + 256 * y.toNat ≤ 1024 then (⟨0, a.toNat, (x.toNat + 256 * y.toNat : Nat)⟩, 3, 0) else (⟨0, 0, 0⟩, 0, 4)
end Lz

theorem or_lo (x y : Nat) (hx : x < 256) : x ||| y * 256 = x + 256 * y := by
  have := Nat.two_pow_add_eq_or_of_lt (i := 8) (b := x) (by omega) y
  rw [Nat.or_comm, Nat.mul_comm y 256, Nat.add_comm x]
  exact this.symm
theorem i64_or_lo (x y : Nat) (hx : x < 256) (hy : y < 256) : bits .or .i64 (x : Int) ((y : Int) * 256) = ((x + 256 * y : Nat) : Int) := by
  rw [show (y : Int) * 256 = ((y * 256 : Nat) : Int) from by omega]
  show IntKind.i64.wrap ((BitVec.ofInt 64 (x : Int) ||| BitVec.ofInt 64 ((y * 256 : Nat) : Int)).toNat : Int) = _
  rw [BitVec.toNat_or, ofInt_u64 x (by omega), ofInt_u64 (y * 256) (by omega), or_lo x y hx]
  simp [IntKind.wrap, IntKind.bits, IntKind.signed]
  omega

set_option maxHeartbeats 1000000 in
theorem rt_letter (s : ByteArray) (x : UInt8) (w : World) (h : 2 ≤ s.size) (h0 : s[0] = 0) (h1 : s[1] = x) (hs : s.size ≤ 140737488351232) :
    Calls Try.prog 119 #[.string s] w fun e w' => e = .returned (.tuple #[tokV ⟨x, 0, 0⟩, .int .i64 2, .int .i64 0]) ∧ Below w.heap.size w w' := by
  go_enter Try.func119, Try.ntmps119
  go_wp2_with fail
  refine bodyPost_ret (v := .tuple #[tokV ⟨x, 0, 0⟩, .int .i64 2, .int .i64 0]) ?_ rfl ⟨rfl, (Below.refl _ w).alloc (Nat.le_refl _) _⟩
  simp [results, asAddr, go_sem, tokV]

set_option maxHeartbeats 1000000 in
theorem rt_short (s : ByteArray) (w : World) (h : 1 ≤ s.size) (hx : (s[0] = 0 ∧ s.size < 2) ∨ (¬ s[0] = 0 ∧ s.size < 3)) :
    Calls Try.prog 119 #[.string s] w fun e w' => e = .returned (.tuple #[tokV ⟨0, 0, 0⟩, .int .i64 0, .int .i64 3]) ∧ Below w.heap.size w w' := by
  rcases hx with ⟨h0, hx⟩ | ⟨h0, hx⟩
  · go_enter Try.func119, Try.ntmps119
    go_wp2_with fail
    refine bodyPost_ret (v := .tuple #[tokV ⟨0, 0, 0⟩, .int .i64 0, .int .i64 3]) ?_ rfl ⟨rfl, (Below.refl _ w).alloc (Nat.le_refl _) _⟩
    simp [results, asAddr, go_sem, tokV]
  · have hq : ((s[0].toNat : Int) == 0) = false := by rw [beq_eq_false_iff_ne]; intro e; exact h0 ((lit_nat _).2 e)
    go_enter Try.func119, Try.ntmps119
    go_wp2_with fail
    refine bodyPost_ret (v := .tuple #[tokV ⟨0, 0, 0⟩, .int .i64 0, .int .i64 3]) ?_ rfl ⟨rfl, (Below.refl _ w).alloc (Nat.le_refl _) _⟩
    simp [results, asAddr, go_sem, tokV]

set_option maxHeartbeats 1000000 in
theorem rt_copy (s : ByteArray) (d : Nat) (w : World) (h : 3 ≤ s.size) (hs : s.size ≤ 140737488351232) (h0 : ¬ s[0] = 0) (hd : s[1].toNat + 256 * s[2].toNat = d) (h1 : 1 ≤ d) (h2 : d ≤ 1024) :
    Calls Try.prog 119 #[.string s] w fun e w' => e = .returned (.tuple #[tokV ⟨0, s[0].toNat, d⟩, .int .i64 3, .int .i64 0]) ∧ Below w.heap.size w w' := by
  have hq : ((s[0].toNat : Int) == 0) = false := by rw [beq_eq_false_iff_ne]; intro e; exact h0 ((lit_nat _).2 e)
  have hor : bits .or .i64 (s[1].toNat : Int) ((s[2].toNat : Int) * 256) = (d : Int) := by
    rw [i64_or_lo _ _ s[1].toNat_lt s[2].toNat_lt, hd]
  have J1 : (1 : Int) < (s.size : Int) := by omega
  have J2 : (2 : Int) < (s.size : Int) := by omega
  have b0 := s[0].toNat_lt
  have b1 := s[1].toNat_lt
  have b2 := s[2].toNat_lt
  have hb := dist_any d
  rw [show Lz.dOK d = true from decide_eq_true ⟨by omega, by omega⟩] at hb
  clear hd
  go_enter Try.func119, Try.ntmps119
  go_wp2_with fail
  go_region
  all_goals go_wp2_with fail
  all_goals refine (hb _).mono ?_
  all_goals rintro e w2 ⟨rfl, rfl⟩
  all_goals go_wp2_with fail
  all_goals refine bodyPost_ret (v := .tuple #[tokV ⟨0, s[0].toNat, d⟩, .int .i64 3, .int .i64 0]) ?_ rfl ⟨rfl, ((Below.refl _ w).alloc (Nat.le_refl _) _).drew⟩
  all_goals simp [results, asAddr, go_sem, tokV]

set_option maxHeartbeats 1000000 in
theorem rt_form (s : ByteArray) (d : Nat) (w : World) (h : 3 ≤ s.size) (hs : s.size ≤ 140737488351232) (h0 : ¬ s[0] = 0) (hd : s[1].toNat + 256 * s[2].toNat = d) (h1 : ¬ (1 ≤ d ∧ d ≤ 1024)) :
    Calls Try.prog 119 #[.string s] w fun e w' => e = .returned (.tuple #[tokV ⟨0, 0, 0⟩, .int .i64 0, .int .i64 4]) ∧ Below w.heap.size w w' := by
  have hq : ((s[0].toNat : Int) == 0) = false := by rw [beq_eq_false_iff_ne]; intro e; exact h0 ((lit_nat _).2 e)
  have hor : bits .or .i64 (s[1].toNat : Int) ((s[2].toNat : Int) * 256) = (d : Int) := by
    rw [i64_or_lo _ _ s[1].toNat_lt s[2].toNat_lt, hd]
  have J1 : (1 : Int) < (s.size : Int) := by omega
  have J2 : (2 : Int) < (s.size : Int) := by omega
  have b0 := s[0].toNat_lt
  have b1 := s[1].toNat_lt
  have b2 := s[2].toNat_lt
  have hb := dist_any d
  rw [show Lz.dOK d = false from decide_eq_false (by omega)] at hb
  clear hd h1
  go_enter Try.func119, Try.ntmps119
  go_wp2_with fail
  go_region
  all_goals go_wp2_with fail
  all_goals refine (hb _).mono ?_
  all_goals rintro e w2 ⟨rfl, rfl⟩
  all_goals go_wp2_with fail
  all_goals refine bodyPost_ret (v := .tuple #[tokV ⟨0, 0, 0⟩, .int .i64 0, .int .i64 4]) ?_ rfl ⟨rfl, ((Below.refl _ w).alloc (Nat.le_refl _) _).drew⟩
  all_goals simp [results, asAddr, go_sem, tokV]

theorem rt_any (s : ByteArray) (w : World) (h : 1 ≤ s.size) (hs : s.size ≤ 140737488351232) :
    Calls Try.prog 119 #[.string s] w fun e w' => e = .returned (.tuple #[tokV (Lz.rt s.data.toList).1, .int .i64 (Lz.rt s.data.toList).2.1, .int .i64 (Lz.rt s.data.toList).2.2]) ∧ Below w.heap.size w w' := by
  have hl : s.data.toList.length = s.size := (Lib.size_eq s).symm
  have hg := byte_get s
  generalize s.data.toList = L at hl hg ⊢
  match L, hl with
  | [], hl => simp at hl; omega
  | [a], hl =>
    have hl : 1 = s.size := hl
    refine rt_short s w h ?_
    by_cases h0 : s[0] = 0
    · exact .inl ⟨h0, by omega⟩
    · exact .inr ⟨h0, by omega⟩
  | [a, x], hl =>
    have hl : 2 = s.size := hl
    have g0 : some a = some s[0] := hg 0 (by omega)
    have g1 : some x = some s[1] := hg 1 (by omega)
    have g0 : a = s[0] := by simpa using g0
    have g1 : x = s[1] := by simpa using g1
    by_cases h0 : a = 0
    · rw [show Lz.rt [a, x] = (⟨x, 0, 0⟩, 2, 0) from if_pos h0]
      exact rt_letter s x w (by omega) (by rw [← g0]; exact h0) g1.symm hs
    · rw [show Lz.rt [a, x] = (⟨0, 0, 0⟩, 0, 3) from if_neg h0]
      exact rt_short s w h (.inr ⟨by rw [← g0]; exact h0, by omega⟩)
  | a :: x :: y :: r, hl =>
    have hl : r.length + 3 = s.size := hl
    have g0 : some a = some s[0] := hg 0 (by omega)
    have g1 : some x = some s[1] := hg 1 (by omega)
    have g2 : some y = some s[2] := hg 2 (by omega)
    have g0 : a = s[0] := by simpa using g0
    have g1 : x = s[1] := by simpa using g1
    have g2 : y = s[2] := by simpa using g2
    by_cases h0 : a = 0
    · rw [show Lz.rt (a :: x :: y :: r) = (⟨x, 0, 0⟩, 2, 0) from if_pos h0]
      exact rt_letter s x w (by omega) (by rw [← g0]; exact h0) g1.symm hs
    · by_cases hd : 1 ≤ x.toNat + 256 * y.toNat ∧ x.toNat + 256 * y.toNat ≤ 1024
      · rw [show Lz.rt (a :: x :: y :: r) = (⟨0, a.toNat, (x.toNat + 256 * y.toNat : Nat)⟩, 3, 0) from (if_neg h0).trans (if_pos hd), g0]
        exact rt_copy s _ w (by omega) hs (by rw [← g0]; exact h0) (by rw [g1, g2]) hd.1 hd.2
      · rw [show Lz.rt (a :: x :: y :: r) = (⟨0, 0, 0⟩, 0, 4) from (if_neg h0).trans (if_neg hd)]
        exact rt_form s _ w (by omega) hs (by rw [← g0]; exact h0) (by rw [g1, g2]) hd
end Go.Proofs.Ytkhejelmjkpgfaa

namespace Go.Proofs.Ytkhejelmjkpgfaa
open Go.RowKit
set_option maxRecDepth 4000

theorem letter_good {t : Lz.Tk} (h : Lz.Good t) : t.raw.isL = decide (t.len = 0) := by
  unfold Lz.Tr.isL Lz.Tk.raw
  refine decide_eq_decide.2 ?_
  dsimp only
  rcases h with ⟨h1, h2⟩ | ⟨_, h1, _, h2, _⟩ <;> omega
/-- a row of bytes is no token -/
theorem own_not_tok {base : Nat} {w : World} {v : Value} {n : Nat} {xs : List Value} {G : Nat} {cs : Array Value} (h : w.ownsRow base 5 1 v n xs) (hx : w.heap[G]? = some (.cells cs 131)) : some G ≠ v.ownBlock := by
  intro e
  rcases h.2 with ⟨rfl, _⟩ | ⟨g, cap, cur, rfl, _, hg, _⟩
  · simp [Value.ownBlock] at e
  · simp [Value.ownBlock] at e
    subst e
    rw [hx] at hg
    simp at hg
theorem own_byte {base : Nat} {w1 : World} {v1 : Value} {l : List UInt8} {b : UInt8} (h : w1.ownsRow base 5 1 v1 (l.length + 1) (l.map B ++ [.int .u8 b.toNat])) : w1.ownsRow base 5 1 v1 (l ++ [b]).length ((l ++ [b]).map B) := by
  simpa [B] using h

set_option maxHeartbeats 1000000 in
theorem append_letter (b : UInt8) (out : List UInt8) (v : Value) (base : Nat) (w : World) (hb : base ≤ w.heap.size) (ho : out.length ≤ 4096) (hown : w.ownsRow base 5 1 v out.length (out.map B)) :
    Calls Try.prog 120 #[v, tokV ⟨b, 0, 0⟩] w fun e w' => ∃ v', e = .returned v' ∧ w'.ownsRow base 5 1 v' (out ++ [b]).length ((out ++ [b]).map B) ∧ Below base w w' := by
  obtain ⟨i0, hi, hz0, hz1, hz2⟩ := info_parts info_u8
  have hl := letter_any ⟨b, 0, 0⟩
  rw [show Lz.Tr.isL ⟨b, 0, 0⟩ = true from rfl] at hl
  unfold tokV at hl ⊢
  go_enter Try.func120, Try.ntmps120
  go_wp2_with fail
  refine (hl _).mono ?_
  rintro e w2 ⟨rfl, hb2⟩
  have hc0 := (hb2.cell (p := ⟨w.heap.size, 0, none⟩) (by simp)).trans (show _ = some (.int .u8 (b.toNat : Int)) from by simp)
  have hB2 : Below w.heap.size w w2 := below_past hb2
  have hs2 := hB2.size
  have hown2 := own_below hown hB2
  clear hl hb2 hown
  go_wp2_with (at_builtin; refine wpList_append_own _ rfl (.tmp 7) (.tmp 10) 51 rfl base 5 i0 (.int .u8 0) 1 1 Try.underlying51 hi hz0 hz1 hz2 rfl (by decide) _ _ _ rfl (hown2.alloc _) ⟨w2.heap.size, 0, none⟩ 1 1 [.int .u8 (b.toNat : Int)] rfl rfl ?c1 ?c2 ?c3 ?c4 ?c5 ?_)
  case c1 =>
    intro j u hj
    match j, hj with
    | 0, hj => simp at hj; subst hj; simp [Addr.add]
  case c2 => intro u hu; simp at hu; subst hu; rfl
  case c3 => unfold maxLen; omega
  case c4 => omega
  case c5 => simp; omega
  intro v1 w3 hown3 hgrow _
  have HO : Hid (w3.ownsRow base 5 1 v1 (out ++ [b]).length ((out ++ [b]).map B)) := own_byte hown3
  have HB : Hid (Below base w w3) := (((hB2.mono hb)).alloc (by omega) _).grown hgrow (by simp; omega) fun k hk => (hown2.lt k hk).1
  clear hown3 hgrow hown2 hB2
  go_wp2_with fail
  go_ret
  exact ⟨_, rfl, HO.out, HB.out⟩

set_option maxHeartbeats 1000000 in
theorem append_copy (n d : Nat) (out : List UInt8) (v : Value) (base : Nat) (w : World) (hb : base ≤ w.heap.size) (hn : 1 ≤ n) (hn2 : n ≤ 255) (hd : 1 ≤ d) (hd2 : d ≤ out.length) (ho : out.length ≤ 4096) (hown : w.ownsRow base 5 1 v out.length (out.map B)) :
    Calls Try.prog 120 #[v, tokV ⟨0, n, d⟩] w fun e w' => ∃ v', e = .returned v' ∧ w'.ownsRow base 5 1 v' (Lz.cpy out d n).length ((Lz.cpy out d n).map B) ∧ Below base w w' := by
  obtain ⟨i0, hi, hz0, hz1, hz2⟩ := info_parts info_u8
  have hl := letter_any ⟨0, n, d⟩
  rw [show Lz.Tr.isL ⟨0, n, d⟩ = false from decide_eq_false (by dsimp only; omega)] at hl
  unfold tokV at hl ⊢
  have HX0 : Hid ((w.alloc (.cells #[.int .u8 0, .int .i64 n, .int .i64 d] 131)).heap[w.heap.size]? = some (.cells #[.int .u8 0, .int .i64 n, .int .i64 d] 131)) := heap_alloc_new w _
  go_enter Try.func120, Try.ntmps120
  go_wp2_with fail
  refine (hl _).mono ?_
  rintro e w2 ⟨rfl, hb2⟩
  have hc1 := (hb2.cell (p := ⟨w.heap.size, 1, none⟩) (by simp)).trans (show _ = some (.int .i64 (n : Int)) from by simp)
  have HX2 : Hid (w2.heap[w.heap.size]? = some (.cells #[.int .u8 0, .int .i64 n, .int .i64 d] 131)) := (hb2.block _ (by simp)).trans HX0.out
  have hB2 : Below w.heap.size w w2 := below_past hb2
  have hs2 := hB2.size
  have hown2 := own_below hown hB2
  have HB2 : Hid (Below base w w2) := hB2.mono hb
  clear hl hb2 hown hB2 HX0
  go_wp2_with fail
  clear hc1
  go_loopw [0, 14] (fun v i wr => ∃ k : Nat, k ≤ n ∧ i = .int .i64 k ∧ wr.ownsRow base 5 1 v (Lz.cpy out d k).length ((Lz.cpy out d k).map B) ∧ Hid (wr.heap[w.heap.size]? = some (.cells #[.int .u8 0, .int .i64 n, .int .i64 d] 131)) ∧ Hid (Below base w wr)) (fun _ i _ => n - (intOf i).toNat)
  case atStart => exact ⟨0, by omega, rfl, hown2, HX2, HB2⟩
  case round =>
    obtain ⟨k, hk, rfl, hown, hx, hB⟩ := hrel
    by_cases hlt : k < n
    · have hlen := Lz.cpy_length out d k
      have HC : Hid (Lz.cpy out d (k + 1) = Lz.cpy out d k ++ [(Lz.cpy out d k).getD ((Lz.cpy out d k).length - d) 0]) := rfl
      generalize Lz.cpy out d k = L at *
      obtain ⟨m, hm⟩ : ∃ m, m = L.length - d := ⟨_, rfl⟩
      rw [← hm] at HC
      have hmL : m < L.length := by omega
      have i3 : (L.length : Int) - (d : Int) = (m : Int) := by omega
      obtain ⟨g, cap, hv⟩ : ∃ g cap, u0 = .slice (some ⟨g, 0, none⟩) L.length cap := by
        rcases hown.2 with ⟨_, h0⟩ | ⟨g, cap, _, hv, _⟩
        · omega
        · exact ⟨g, cap, hv⟩
      subst hv
      have hcell : wr.cell? ⟨g, m, none⟩ = some (.int .u8 (L.getD m 0).toNat) := by
        have := hown.cellAt m (by omega)
        rw [this, List.getElem?_map, List.getElem?_eq_getElem hmL, List.getD_eq_getElem?_getD, List.getElem?_eq_getElem hmL]
        rfl
      generalize L.getD m 0 = b at *
      have hd2' : wr.cell? ⟨w.heap.size, 2, none⟩ = some (.int .i64 (d : Int)) := by
        rw [cell_of_row _ w.heap.size 2 _ _ _ hx.out]; rfl
      have hsw := hB.out.size
      have hnt := own_not_tok hown hx.out
      have hlb : L.length ≤ 4351 := by omega
      clear hm hlen
      go_wp2_with (at_builtin; refine wpList_append_own _ rfl (.tmp 16) (.tmp 25) 51 rfl base 5 i0 (.int .u8 0) 1 1 Try.underlying51 hi hz0 hz1 hz2 rfl (by decide) _ _ _ rfl (hown.alloc _) ⟨wr.heap.size, 0, none⟩ 1 1 [.int .u8 (b.toNat : Int)] rfl rfl ?c1 ?c2 ?c3 ?c4 ?c5 ?_)
      case c1 =>
        intro j u hj
        match j, hj with
        | 0, hj => simp at hj; subst hj; simp [Addr.add]
      case c2 => intro u hu; simp at hu; subst hu; rfl
      case c3 => unfold maxLen; omega
      case c4 => omega
      case c5 => simp; omega
      intro v1 w3 hown3 hgrow _
      have HO : Hid (w3.ownsRow base 5 1 v1 (Lz.cpy out d (k + 1)).length ((Lz.cpy out d (k + 1)).map B)) := by rw [HC.out]; exact own_byte hown3
      have HB3 : Hid (Below base w w3) := (hB.out.alloc (by omega) _).grown hgrow (by simp; omega) fun j hj => (hown.lt j hj).1
      have hlx : w.heap.size < wr.heap.size := (Array.getElem?_eq_some_iff.1 hx.out).1
      have HX3 : Hid (w3.heap[w.heap.size]? = some (.cells #[.int .u8 0, .int .i64 n, .int .i64 d] 131)) :=
        (hgrow.block _ (by simp; omega) hnt).trans ((Below.heap_alloc _ _ _ hlx).trans hx.out)
      clear hown3 hgrow hown hB hx hcell hd2' hnt
      go_wp2_with fail
      go_roundw
      case rel => exact ⟨k + 1, by omega, by go_num, HO.out, HX3, HB3⟩
      case measure => simp only [intOf]; omega
    · obtain rfl : k = n := by omega
      go_wp2_with fail
      go_ret
      exact ⟨_, rfl, hown, hB.out⟩
theorem append_any (t : Lz.Tk) (out : List UInt8) (v : Value) (base : Nat) (w : World) (hg : Lz.Good t) (hd : t.dist ≤ out.length) (hb : base ≤ w.heap.size) (ho : out.length ≤ 4096) (hown : w.ownsRow base 5 1 v out.length (out.map B)) :
    Calls Try.prog 120 #[v, tokV t.raw] w fun e w' => ∃ v', e = .returned v' ∧ w'.ownsRow base 5 1 v' (t.make out).length ((t.make out).map B) ∧ Below base w w' := by
  obtain ⟨b, n, d⟩ := t
  rcases hg with ⟨h1, h2⟩ | ⟨h0, h1, h2, h3, h4⟩
  · have h1 : n = 0 := h1
    have h2 : d = 0 := h2
    subst h1 h2
    exact append_letter b out v base w hb ho hown
  · have h0 : b = 0 := h0
    subst h0
    have h1 : 1 ≤ n := h1
    rw [show (Lz.Tk.mk 0 n d).make out = Lz.cpy out d n from if_neg (by show ¬ n = 0; omega)]
    exact append_copy n d out v base w hb h1 h2 h3 hd ho hown
end Go.Proofs.Ytkhejelmjkpgfaa

namespace Go.Proofs.Ytkhejelmjkpgfaa
open Go.RowKit
set_option maxRecDepth 4000

namespace Lz
def Tr.tok (t : Tr) : Tk := ⟨t.lit, t.len.toNat, t.dist.toNat⟩
theorem Tr.tok_raw {t : Tr} (h : t.form) : t.tok.raw = t ∧ Good t.tok := by
  obtain ⟨b, n, d⟩ := t
  unfold Tr.tok Tk.raw
  rcases h with ⟨h1, h2⟩ | ⟨h0, h1, h2, h3, h4⟩ <;> dsimp only at *
  · exact ⟨by congr <;> omega, .inl ⟨by dsimp only; omega, by dsimp only; omega⟩⟩
  · exact ⟨by congr <;> omega, .inr ⟨h0, by dsimp only; omega, by dsimp only; omega, by dsimp only; omega, by dsimp only; omega⟩⟩
theorem raw_tok (t : Tk) : t.raw.tok = t := by
  obtain ⟨b, n, d⟩ := t
  rfl
/-- P16's Expand -/
def expd (l : List Tr) (most : Int) : Bs × Nat := if most < 0 ∨ 4096 < most then ([], 1) else if chk l = 0 then ex most.toNat [] (l.map Tr.tok) else ([], chk l)
theorem chk_zero {l : List Tr} (h : chk l = 0) : l.length ≤ 4096 ∧ ∀ t ∈ l, t.form := by
  unfold chk at h
  split at h
  · omega
  · split at h
    · exact ⟨by omega, by assumption⟩
    · omega
theorem many_raw {t : Tk} (h : Good t) : t.raw.many = (t.size : Nat) := by
  unfold Tr.many Tk.size Tk.raw
  rcases h with ⟨h1, h2⟩ | ⟨_, h1, h2, h3, h4⟩
  · dsimp only
    rw [if_pos ⟨by omega, by omega⟩, if_pos h1]; rfl
  · dsimp only
    rw [if_neg (by omega), if_neg (by omega)]
theorem ex_len {most : Nat} {out : Bs} {l : List Tk} (ho : out.length ≤ most) : (ex most out l).1.length ≤ most := by
  induction l generalizing out with
  | nil => exact ho
  | cons t l ih =>
    rw [ex]
    split
    · exact Nat.zero_le _
    · split
      · exact Nat.zero_le _
      · exact ih (by rw [make_length]; omega)
end Lz

set_option maxHeartbeats 400000 in
theorem expand_arg (v : Value) (most : Int) (w : World) (h : most < 0 ∨ 4096 < most) :
    Calls Try.prog 87 #[v, .int .i64 most] w fun e w' => e = .returned (.tuple #[.string ⟨#[]⟩, .int .i64 1]) ∧ w' = w := by
  rcases h with h | h
  · go_enter Try.func87, Try.ntmps87
    go_wp2_with fail
    go_ret2
    exact ⟨rfl, rfl⟩
  · have h0 : decide (most < 0) = false := decide_eq_false (by omega)
    have h1 : decide (4096 < most) = true := decide_eq_true h
    go_enter Try.func87, Try.ntmps87
    go_wp2_with fail
    go_ret2
    exact ⟨rfl, rfl⟩

set_option maxHeartbeats 400000 in
theorem expand_chk (v : Value) (l : List Lz.Tr) (M : Nat) (w : World) (h : Toks w v l) (hl : l.length ≤ 140737488351232) (hM : M ≤ 4096) (hc : Lz.chk l ≠ 0) :
    Calls Try.prog 87 #[v, .int .i64 M] w fun e w' => e = .returned (.tuple #[.string ⟨#[]⟩, .int .i64 (Lz.chk l)]) ∧ Below w.heap.size w w' := by
  have hk := check_any v l w h hl
  generalize Lz.chk l = c at *
  have hq : ((c : Int) != 0) = true := by rw [bne_iff_ne]; omega
  have h0 : decide ((M : Int) < 0) = false := decide_eq_false (by omega)
  have h1 : decide (4096 < (M : Int)) = false := decide_eq_false (by omega)
  go_enter Try.func87, Try.ntmps87
  go_wp2_with fail
  refine hk.mono ?_
  rintro e w1 ⟨rfl, hb1⟩
  go_wp2_with fail
  go_ret2
  exact ⟨rfl, hb1⟩

set_option maxHeartbeats 2000000 in
theorem expand_in (v : Value) (l : List Lz.Tr) (M : Nat) (R : Lz.Bs × Nat) (w : World) (h : Toks w v l) (hM : M ≤ 4096) (hc : Lz.chk l = 0) (hR : Lz.ex M [] (l.map Lz.Tr.tok) = R) :
    Calls Try.prog 87 #[v, .int .i64 M] w fun e w' => e = .returned (.tuple #[.string ⟨R.1.toArray⟩, .int .i64 R.2]) ∧ Below w.heap.size w w' := by
  obtain ⟨hl, hf⟩ := Lz.chk_zero hc
  have hk := check_any v l w h (by omega)
  rw [hc] at hk
  have HF : Hid (∀ t ∈ l, t.form) := hf
  have HR : Hid (Lz.ex M [] (l.map Lz.Tr.tok) = R) := hR
  have HT : Hid (Toks w v l) := h
  obtain ⟨a, c, rfl⟩ := h.slice
  have h0 : decide ((M : Int) < 0) = false := decide_eq_false (by omega)
  have h1 : decide (4096 < (M : Int)) = false := decide_eq_false (by omega)
  clear hf hR hc h
  go_enter Try.func87, Try.ntmps87
  go_wp2_with fail
  refine hk.mono ?_
  rintro e w1 ⟨rfl, hb1⟩
  clear hk
  go_wp2_with fail
  go_loopw [7, 23] (fun v i wr => ∃ (k : Nat) (out : List UInt8), k ≤ l.length ∧ out.length ≤ M ∧ i = .int .i64 k ∧ Hid (Lz.ex M out ((l.drop k).map Lz.Tr.tok) = R) ∧ wr.ownsRow w.heap.size 5 1 v out.length (out.map B) ∧ Below w.heap.size w wr) (fun _ i _ => l.length - (intOf i).toNat)
  case atStart => exact ⟨0, [], by omega, by simp, rfl, HR, World.ownsRow_nil _ _ _ _, hb1⟩
  case round =>
    obtain ⟨k, out, hkl, hout, rfl, hex, hown, hbel⟩ := hrel
    obtain ⟨a7, c7, rfl⟩ := own_form hown
    by_cases hlt : k < l.length
    · obtain ⟨bk, o, rfl, _, hbk, c0, c1, c2⟩ := (HT.out.below (Nat.le_refl _) hbel).get k hlt
      obtain ⟨hraw, hgood⟩ := Lz.Tr.tok_raw (HF.out l[k] (List.getElem_mem hlt))
      have hstep : l.drop k = l[k] :: l.drop (k + 1) := List.drop_eq_getElem_cons hlt
      have HE : Hid (Lz.ex M out (l[k].tok :: (l.drop (k + 1)).map Lz.Tr.tok) = R) := by
        have := hex.out
        rw [hstep, List.map_cons] at this
        exact this
      clear hstep hex
      generalize l[k] = t at *
      generalize t.tok = u at *
      subst hraw
      have hby := bytes_any u.raw
      rw [Lz.many_raw hgood] at hby
      have happ := fun V v' o' => append_any u o' v' w.heap.size V hgood
      obtain ⟨b, n, d⟩ := u
      unfold tokV at hby happ
      dsimp only [Lz.Tk.raw] at c0 c1 c2 hby happ
      have hn2 : n ≤ 255 := by rcases hgood with ⟨h1, _⟩ | ⟨_, _, h1, _⟩ <;> simp at h1 <;> omega
      have HN : Hid ((Lz.Tk.mk b n d).size ≤ 255) := by
        show (if n = 0 then 1 else n) ≤ 255
        split <;> omega
      rw [Lz.ex] at HE
      have HL := Lz.make_length ⟨b, n, d⟩ out
      generalize (Lz.Tk.mk b n d).size = z at *
      have hbs := hbel.size
      have hz255 := HN.out
      by_cases hd : out.length < d
      · have HR4 : Hid (R = ([], 4)) := by
          have h := HE.out
          rw [if_pos hd] at h
          exact h.symm
        clear HE
        have hq : decide ((out.length : Int) < (d : Int)) = true := decide_eq_true (by omega)
        go_wp2_with fail
        go_ret2
        exact ⟨by rw [HR4.out]; rfl, hbel.alloc hbs _⟩
      have hd' : d ≤ out.length := by omega
      have hq : decide ((out.length : Int) < (d : Int)) = false := decide_eq_false (by omega)
      go_wp2_with fail
      refine (hby _).mono ?_
      rintro e w2 ⟨rfl, hb2⟩
      have x0 := (hb2.cell (p := ⟨wr.heap.size, 0, none⟩) (by simp)).trans (show _ = some (.int .u8 (b.toNat : Int)) from by simp)
      have x1 := (hb2.cell (p := ⟨wr.heap.size, 1, none⟩) (by simp)).trans (show _ = some (.int .i64 (n : Int)) from by simp)
      have x2 := (hb2.cell (p := ⟨wr.heap.size, 2, none⟩) (by simp)).trans (show _ = some (.int .i64 (d : Int)) from by simp)
      have hB2 : Below w.heap.size w w2 := (hbel.alloc hbs _).trans (hb2.mono (by simp; omega))
      have hown2 := own_below (hown.alloc _) hb2
      have hs2 := hB2.size
      clear hby hb2 hown hbel c0 c1 c2
      by_cases hz : M < out.length + z
      · have HR2 : Hid (R = ([], 2)) := by
          have h := HE.out
          rw [if_neg hd, if_pos hz] at h
          exact h.symm
        have hq2 : decide ((M : Int) < (out.length : Int) + (z : Int)) = true := decide_eq_true (by omega)
        clear HE
        go_wp2_with fail
        go_ret2
        exact ⟨by rw [HR2.out]; rfl, hB2⟩
      have HE2 : Hid (Lz.ex M ((Lz.Tk.mk b n d).make out) ((l.drop (k + 1)).map Lz.Tr.tok) = R) := by
        have h := HE.out
        rw [if_neg hd, if_neg hz] at h
        exact h
      have hq2 : decide ((M : Int) < (out.length : Int) + (z : Int)) = false := decide_eq_false (by omega)
      have hap := happ w2 _ out hd' hs2 (by omega) hown2
      generalize (Lz.Tk.mk b n d).make out = mk at *
      clear HE happ hown2
      go_wp2_with fail
      refine hap.mono ?_
      rintro e w3 ⟨v3, rfl, hown3, hb3⟩
      have HO3 : Hid (w3.ownsRow w.heap.size 5 1 v3 mk.length (mk.map B)) := hown3
      have HB3 : Hid (Below w.heap.size w w3) := hB2.trans hb3
      clear hap hown3 hb3 hB2 x0 x1 x2
      go_wp2_with fail
      go_roundw
      case rel => exact ⟨k + 1, mk, by omega, by omega, by go_num, HE2, HO3.out, HB3.out⟩
      case measure => simp only [intOf]; omega
    · have HRE : Hid (R = (out, 0)) := by
        have := hex.out
        rw [List.drop_eq_nil_of_le (by omega)] at this
        exact this.symm
      have hstr := run_str hown
      clear hown hex
      go_wp2_with fail
      go_ret2
      exact ⟨by rw [HRE.out]; rfl, hbel⟩
theorem expand_any (v : Value) (l : List Lz.Tr) (most : Int) (w : World) (h : Toks w v l) (hl : l.length ≤ 140737488351232) :
    Calls Try.prog 87 #[v, .int .i64 most] w fun e w' => e = .returned (.tuple #[.string ⟨(Lz.expd l most).1.toArray⟩, .int .i64 (Lz.expd l most).2]) ∧ Below w.heap.size w w' := by
  unfold Lz.expd
  by_cases hm : most < 0 ∨ 4096 < most
  · rw [if_pos hm]
    refine (expand_arg v most w hm).mono ?_
    rintro e w' ⟨rfl, rfl⟩
    exact ⟨rfl, Below.refl _ _⟩
  · rw [if_neg hm]
    obtain ⟨M, rfl⟩ := Int.eq_ofNat_of_zero_le (show 0 ≤ most by omega)
    by_cases hc : Lz.chk l = 0
    · rw [if_pos hc]
      exact expand_in v l M _ w h (by omega) hc rfl
    · rw [if_neg hc]
      exact expand_chk v l M w h hl (by omega) hc
end Go.Proofs.Ytkhejelmjkpgfaa

namespace Go.Proofs.Ytkhejelmjkpgfaa
open Go.RowKit
set_option maxRecDepth 4000

namespace Lz
theorem rdA_rt (out : List Tk) (X : Bs) (h : X ≠ []) :
    rdA out X = (if (rt X).2.2 = 0 then (if out.length = 4096 then ([], 2) else rdA (out ++ [(rt X).1.tok]) (X.drop (rt X).2.1)) else ([], (rt X).2.2)) ∧
    ((rt X).2.2 = 0 → (rt X).1.tok.raw = (rt X).1 ∧ 1 ≤ (rt X).2.1 ∧ (rt X).2.1 ≤ X.length) := by
  match X with
  | [] => exact absurd rfl h
  | [a] => exact ⟨rfl, fun e => by simp [rt] at e⟩
  | [a, x] =>
    by_cases h0 : a = 0
    · subst h0
      exact ⟨rdA_letter out x [], fun _ => ⟨rfl, by simp [rt], by simp [rt]⟩⟩
    · have e : rt [a, x] = (⟨0, 0, 0⟩, 0, 3) := if_neg h0
      rw [e, rdA_short out a x h0]
      exact ⟨rfl, fun h => by simp at h⟩
  | a :: x :: y :: r =>
    by_cases h0 : a = 0
    · have e : rt (a :: x :: y :: r) = (⟨x, 0, 0⟩, 2, 0) := if_pos h0
      rw [e, h0]
      exact ⟨rdA_letter out x (y :: r), fun _ => ⟨rfl, by dsimp only; omega, by simp⟩⟩
    · rw [rdA_copy out a x y r h0]
      by_cases hd : 1 ≤ x.toNat + 256 * y.toNat ∧ x.toNat + 256 * y.toNat ≤ 1024
      · have e : rt (a :: x :: y :: r) = (⟨0, a.toNat, (x.toNat + 256 * y.toNat : Nat)⟩, 3, 0) := (if_neg h0).trans (if_pos hd)
        rw [e, if_neg (by omega)]
        exact ⟨rfl, fun _ => ⟨rfl, by dsimp only; omega, by simp⟩⟩
      · have e : rt (a :: x :: y :: r) = (⟨0, 0, 0⟩, 0, 4) := (if_neg h0).trans (if_neg hd)
        rw [e, if_pos (by omega)]
        exact ⟨rfl, fun h => by simp at h⟩
/-- P18's Read -/
def rd (X : Bs) : List Tk × Nat := rdA [] X
def rdR (X : Bs) : List Tr := (rd X).1.map Tk.raw
end Lz
theorem ext_toList (s : ByteArray) (p : Nat) : (s.extract p s.size).data.toList = s.data.toList.drop p := by
  rw [ByteArray.data_extract]
  simp [List.extract_eq_take_drop]
  rw [List.take_of_length_le]
  rw [List.length_drop, ← Lib.size_eq]
  omega

set_option maxHeartbeats 2000000 in
theorem read_of (s : ByteArray) (w : World) (hs : s.size ≤ 140737488351232) (L : Lz.Bs) (R : List Lz.Tk × Nat) (hL : s.data.toList = L) (hR : Lz.rdA [] L = R) :
    Calls Try.prog 86 #[.string s] w fun e w' => ∃ v, e = .returned (.tuple #[v, .int .i64 R.2]) ∧ w'.ownsRow w.heap.size 131 3 v (R.1.map Lz.Tk.raw).length (rowC (R.1.map Lz.Tk.raw)) ∧ Below w.heap.size w w' := by
  have hLl : L.length = s.size := by rw [← hL]; exact (Lib.size_eq s).symm
  have HLL : Hid (L.length = s.size) := hLl
  have HX : Hid (∀ p, p ≤ s.size → (s.extract p s.size).data.toList = L.drop p) := fun p _ => by rw [← hL]; exact ext_toList s p
  have HR : Hid (Lz.rdA [] L = R) := hR
  clear hL hR hLl
  obtain ⟨i0, hi, hz0, hz1, hz2⟩ := info_parts info_tok
  go_enter Try.func86, Try.ntmps86
  go_wp2_with fail
  go_loopw [4, 5] (fun v i wr => ∃ (p : Nat) (out : List Lz.Tk), p ≤ s.size ∧ out.length ≤ 4096 ∧ i = .int .i64 p ∧ Hid (Lz.rdA out (L.drop p) = R) ∧ wr.ownsRow w.heap.size 131 3 v (out.map Lz.Tk.raw).length (rowC (out.map Lz.Tk.raw)) ∧ Below w.heap.size w wr) (fun _ i _ => s.size - (intOf i).toNat)
  case atStart => exact ⟨0, [], by omega, by simp, rfl, HR, World.ownsRow_nil _ _ _ _, Below.refl _ _⟩
  case round =>
    obtain ⟨p, out, hp, ho, rfl, hrd, hown, hbel⟩ := hrel
    by_cases hlt : p < s.size
    · have hex := HX.out p hp
      have hdl : (L.drop p).length = s.size - p := by rw [List.length_drop, HLL.out]
      have hXs : (s.extract p s.size).size = s.size - p := by rw [Lib.size_eq, hex, hdl]
      have hne : L.drop p ≠ [] := fun e => by rw [e] at hdl; simp at hdl; omega
      have hcall := fun V => rt_any (s.extract p s.size) V (by omega) (by omega)
      obtain ⟨hst, hok⟩ := Lz.rdA_rt out (L.drop p) hne
      rw [hex] at hcall
      have HD : Hid (∀ n, (L.drop p).drop n = L.drop (p + n)) := fun n => List.drop_drop
      have HS : Hid (Lz.rdA out (L.drop p) = if (Lz.rt (L.drop p)).2.2 = 0 then (if out.length = 4096 then ([], 2) else Lz.rdA (out ++ [(Lz.rt (L.drop p)).1.tok]) (L.drop (p + (Lz.rt (L.drop p)).2.1))) else ([], (Lz.rt (L.drop p)).2.2)) := by
        rw [← HD.out]; exact hst
      rw [hrd.out] at HS
      have HOK : Hid ((Lz.rt (L.drop p)).2.2 = 0 → (Lz.rt (L.drop p)).1.tok.raw = (Lz.rt (L.drop p)).1 ∧ 1 ≤ (Lz.rt (L.drop p)).2.1 ∧ p + (Lz.rt (L.drop p)).2.1 ≤ s.size) := fun e => by
        obtain ⟨h1, h2, h3⟩ := hok e
        exact ⟨h1, h2, by omega⟩
      clear hex hst hok hne hdl hXs hrd
      generalize Lz.rt (L.drop p) = q at *
      obtain ⟨t, n, e⟩ := q
      dsimp only at HS HOK hcall
      generalize hse : s.extract p s.size = sx at *
      unfold tokV at hcall
      have hbs := hbel.size
      obtain ⟨a4, c4, rfl⟩ := own_form hown
      rw [List.length_map]
      go_wp2_with fail
      refine (hcall _).mono ?_
      rintro er w2 ⟨rfl, hb2⟩
      have hB2 := hbel.trans (hb2.mono hbs)
      have hown2 := own_below hown hb2
      rw [List.length_map] at hown2
      have hs2 := hB2.size
      clear hcall hb2 hbel hown hse
      by_cases he : e = 0
      · subst he
        rw [if_pos rfl] at HS
        obtain ⟨hraw, hn1, hn2⟩ := HOK.out rfl
        clear HOK
        by_cases ho2 : out.length = 4096
        · have HR2 : Hid (R = ([], 2)) := by have h := HS.out; rw [if_pos ho2] at h; exact h
          have hq : ((out.length : Int) == 4096) = true := by rw [ho2]; rfl
          clear HS ho2
          go_wp2_with fail
          go_ret2
          refine ⟨.slice none 0 0, ?_, ?_, hB2.alloc hs2 _⟩
          · rw [HR2.out]; rfl
          · rw [HR2.out]; exact World.ownsRow_nil _ _ _ _
        · have HR2 : Hid (R = Lz.rdA (out ++ [t.tok]) (L.drop (p + n))) := by have h := HS.out; rw [if_neg ho2] at h; exact h
          have hq : ((out.length : Int) == 4096) = false := by rw [beq_eq_false_iff_ne]; omega
          clear HS
          go_wp2_with (at_builtin; refine wpList_append_own _ rfl (.tmp 27) (.tmp 29) 97 rfl w.heap.size 131 i0 (.agg #[.int .u8 0, .int .i64 0, .int .i64 0]) 3 24 Try.underlying97 hi hz0 hz1 hz2 rfl (by decide) _ _ _ rfl ((hown2.alloc _).alloc _) ⟨w2.heap.size + 1, 0, none⟩ 1 1 (tokC t) rfl rfl ?c1 ?c2 ?c3 ?c4 ?c5 ?_)
          case c1 =>
            intro j u hj
            match j, hj with
            | 0, hj => simp [tokC] at hj; subst hj; simp [Addr.add]
            | 1, hj => simp [tokC] at hj; subst hj; simp [Addr.add]
            | 2, hj => simp [tokC] at hj; subst hj; simp [Addr.add]
          case c2 => intro u hu; simp [tokC] at hu; rcases hu with rfl | rfl | rfl <;> rfl
          case c3 => unfold maxLen; omega
          case c4 => omega
          case c5 => simp; omega
          intro v' w4 hown4 hgrow _
          have HB4 : Hid (Below w.heap.size w w4) := ((hB2.alloc hs2 _).alloc (by simp; omega) _).grown hgrow (by simp; omega) fun k hk => (hown2.lt k hk).1
          have HO4 : Hid (w4.ownsRow w.heap.size 131 3 v' ((out ++ [t.tok]).map Lz.Tk.raw).length (rowC ((out ++ [t.tok]).map Lz.Tk.raw))) := by
            rw [List.map_append, List.map_singleton, hraw]
            have h4 := hown4
            rw [← List.length_map (f := Lz.Tk.raw)] at h4
            exact own_tok h4
          clear hown4 hgrow hown2 hB2
          go_wp2_with fail
          go_roundw
          case rel => exact ⟨p + n, out ++ [t.tok], hn2, by simp; omega, by go_num, HR2.out.symm, HO4.out, HB4.out⟩
          case measure => simp only [intOf]; omega
      · have HR2 : Hid (R = ([], e)) := by have h := HS.out; rw [if_neg he] at h; exact h
        have hq : ((e : Int) != 0) = true := by rw [bne_iff_ne]; omega
        clear HS HOK
        go_wp2_with fail
        go_ret2
        refine ⟨.slice none 0 0, ?_, ?_, hB2.alloc hs2 _⟩
        · rw [HR2.out]; rfl
        · rw [HR2.out]; exact World.ownsRow_nil _ _ _ _
    · have HR2 : Hid (R = (out, 0)) := by
        have h := hrd.out
        rw [List.drop_eq_nil_of_le (by rw [HLL.out]; omega)] at h
        exact h.symm
      clear hrd
      go_wp2_with fail
      go_ret2
      refine ⟨u4, ?_, ?_, hbel⟩
      · rw [HR2.out]; rfl
      · rw [HR2.out]; exact hown
theorem read_any (s : ByteArray) (w : World) (hs : s.size ≤ 140737488351232) :
    Calls Try.prog 86 #[.string s] w fun e w' => ∃ v, e = .returned (.tuple #[v, .int .i64 (Lz.rd s.data.toList).2]) ∧ w'.ownsRow w.heap.size 131 3 v (Lz.rdR s.data.toList).length (rowC (Lz.rdR s.data.toList)) ∧ Below w.heap.size w w' :=
  read_of s w hs _ _ rfl rfl
end Go.Proofs.Ytkhejelmjkpgfaa

namespace Go.Proofs.Ytkhejelmjkpgfaa
open Go.RowKit
set_option maxRecDepth 4000

namespace Pr
/-- a number up to most, what is left, and the error -/
def num1 (most : Nat) (s : Bs) : Nat × Bs × Int := if (Nm.getN s).2.2 ≠ 0 then (0, [], (Nm.getN s).2.2) else if most < (Nm.getN s).1 then (0, [], 2) else ((Nm.getN s).1, s.drop (Nm.getN s).2.1, 0)
theorem num1_le (most : Nat) (s : Bs) : (num1 most s).1 ≤ most ∧ (num1 most s).2.1.length ≤ s.length := by
  unfold num1
  split
  · exact ⟨Nat.zero_le _, Nat.zero_le _⟩
  split
  · exact ⟨Nat.zero_le _, Nat.zero_le _⟩
  · rename_i h
    refine ⟨Nat.not_lt.1 h, ?_⟩
    show (s.drop (Nm.getN s).2.1).length ≤ _
    rw [List.length_drop]
    omega
theorem nums_cons (m : Nat) (ms : List Nat) (s : Bs) : nums (m :: ms) s = if (num1 m s).2.2 ≠ 0 then ([], [], (num1 m s).2.2) else
    if (nums ms (num1 m s).2.1).2.2 ≠ 0 then ([], [], (nums ms (num1 m s).2.1).2.2) else ((num1 m s).1 :: (nums ms (num1 m s).2.1).1, (nums ms (num1 m s).2.1).2.1, 0) := by
  unfold num1
  rw [nums]
  by_cases h1 : (Nm.getN s).2.2 ≠ 0
  · rw [if_pos h1, if_pos h1]
    rw [if_pos h1]
  · rw [if_neg h1, if_neg h1]
    by_cases h2 : m < (Nm.getN s).1
    · rw [if_pos h2, if_pos h2]
      rfl
    · rw [if_neg h2, if_neg h2]
      rfl
end Pr

set_option maxHeartbeats 1000000 in
theorem rnum_any (s : ByteArray) (m : Int) (w : World) (hs : s.size ≤ 140737488351232) (h0 : 0 ≤ m) (h1 : m ≤ 65536) :
    Calls Try.prog 115 #[.string s, .int .u64 m] w fun e w' => ∃ s' : ByteArray, e = .returned (.tuple #[.int .i64 (Pr.num1 m.toNat s.data.toList).1, .string s', .int .i64 (Pr.num1 m.toNat s.data.toList).2.2]) ∧
      s'.data.toList = (Pr.num1 m.toNat s.data.toList).2.1 ∧ Below w.heap.size w w' := by
  have hg := get_any s w (by omega)
  obtain ⟨M, rfl⟩ := Int.eq_ofNat_of_zero_le h0
  rw [Int.toNat_natCast]
  obtain ⟨n, k, q, hR⟩ : ∃ n k q, Nm.getN s.data.toList = (n, k, q) := ⟨_, _, _, rfl⟩
  unfold Pr.num1
  rw [hR] at hg ⊢
  dsimp only at hg ⊢
  by_cases he : q = 0
  · subst he
    obtain ⟨hk, hn, _⟩ := Nm.get_one hR
    have hk2 : k ≤ s.size := by rw [Lib.size_eq]; exact hk
    have HE : Hid ((s.extract k s.size).data.toList = s.data.toList.drop k) := ext_toList s k
    clear hR hk
    rw [if_neg (by simp)]
    by_cases hm : M < n
    · rw [if_pos hm]
      dsimp only
      go_enter Try.func115, Try.ntmps115
      go_wp2_with fail
      refine hg.mono ?_
      rintro e w' ⟨rfl, rfl⟩
      go_wp2_with fail
      go_ret3
      exact ⟨⟨#[]⟩, rfl, rfl, Below.refl _ _⟩
    · rw [if_neg hm]
      dsimp only
      have hn2 : n ≤ 65536 := by omega
      have hm2 : n ≤ M := by omega
      clear hn hm
      go_enter Try.func115, Try.ntmps115
      go_wp2_with fail
      refine hg.mono ?_
      rintro e w' ⟨rfl, rfl⟩
      clear hg
      go_wp2_with fail
      go_region
      all_goals go_wp2_with fail
      all_goals go_ret3
      all_goals exact ⟨s.extract k s.size, rfl, HE.out, (Below.refl _ _).drew⟩
  · have hq : (q != 0) = true := by simpa using he
    rw [if_pos he]
    dsimp only
    clear hR he
    go_enter Try.func115, Try.ntmps115
    go_wp2_with fail
    refine hg.mono ?_
    rintro e w' ⟨rfl, rfl⟩
    go_wp2_with fail
    go_ret3
    exact ⟨⟨#[]⟩, rfl, rfl, Below.refl _ _⟩
end Go.Proofs.Ytkhejelmjkpgfaa

namespace Go.Proofs.Ytkhejelmjkpgfaa
open Go.RowKit
set_option maxRecDepth 4000

namespace Pr
theorem up_set (l : List Nat) (i x : Nat) : Hf.up (l.set i x) = (Hf.up l).set i (x : Int) := by
  unfold Hf.up
  rw [List.map_set]
theorem set_le {l : List Nat} {B i x : Nat} (h : ∀ n ∈ l, n ≤ B) (hx : x ≤ B) : ∀ n ∈ l.set i x, n ≤ B := by
  intro n hn
  rcases List.mem_or_eq_of_mem_set hn with hn | rfl
  · exact h n hn
  · exact hx
theorem two_bytes (t : ByteArray) (h : 2 ≤ t.size) : t.data.toList = t[0] :: t[1] :: t.data.toList.drop 2 := by
  have hl : t.data.toList.length = t.size := (Lib.size_eq t).symm
  conv => lhs; rw [← List.drop_zero (l := t.data.toList), List.drop_eq_getElem_cons (by omega), List.drop_eq_getElem_cons (by omega)]
  rfl
theorem pairs_short (j : Nat) (p : Int) (wide : List Nat) (l : Bs) (h : l.length < 2) : pairs (j + 1) p wide l = ([], [], 3) := by
  match l, h with
  | [], _ => rfl
  | [_], _ => rfl
theorem pairs_cons (j : Nat) (p : Int) (wide : List Nat) (a b : UInt8) (l : Bs) : pairs (j + 1) p wide (a :: b :: l) = if (a.toNat : Int) ≤ p ∨ b.toNat = 0 ∨ 48 < b.toNat then ([], [], 4) else pairs j a.toNat (wide.set a.toNat b.toNat) l := rfl
/-- what Go's readLengths leaves -/
structure Lens (w w' : World) (R : List Nat × Bs × Int) (v : Value) (s' : ByteArray) : Prop where
  row : w'.ownsRow w.heap.size 3 1 v 256 ((Hf.up R.1).map Iv)
  rest : s'.data.toList = R.2.1
  len : R.1.length = 256
  le : ∀ n ∈ R.1, n ≤ 48
end Pr

set_option maxHeartbeats 2000000 in
theorem rlens_any (s : ByteArray) (N : Nat) (w : World) (hs : s.size ≤ 140737488351232) (hN : N ≤ 256) (R : List Nat × Pr.Bs × Int) (hR : Pr.pairs N (-1) (List.replicate 256 0) s.data.toList = R) :
    Calls Try.prog 116 #[.string s, .int .i64 N] w fun e w' => ∃ (v : Value) (s' : ByteArray), e = .returned (.tuple #[v, .string s', .int .i64 R.2.2]) ∧ (∃ a n c, v = .slice a n c) ∧ s'.size ≤ s.size ∧
      (R.2.2 = 0 → Pr.Lens w w' R v s') ∧ Below w.heap.size w w' := by
  obtain ⟨i0, hi, hz0, hz1, hz2⟩ := info_parts info_int
  have HR : Hid (Pr.pairs N (-1) (List.replicate 256 0) s.data.toList = R) := hR
  clear hR
  go_enter Try.func116, Try.ntmps116
  go_wp2_with (at_make; refine wpList_make_full _ rfl (.const (.int .i64 256)) (.const (.int .i64 256)) 82 rfl w.heap.size 3 i0 (.int .i64 0) 1 Try.underlying82 hi hz0 hz1 .i64 .i64 _ _ 256 rfl rfl rfl rfl (by rw [hz2]; omega) (by unfold maxLen; omega) (Nat.le_refl _) ?_; intro w1 hown hgrow)
  have hown1 := made_zeros hown
  have HB1 : Hid (Below w.heap.size w w1) := (Below.refl _ _).grown hgrow (Nat.le_refl _) (fun k hk => by cases hk)
  clear hown hgrow
  go_wp2_with fail
  go_loopw [0, 8, 13] (fun sv pv i wr => ∃ (k : Nat) (t : ByteArray) (p : Int) (wide : List Nat), k ≤ N ∧ i = .int .i64 k ∧ sv = .string t ∧ t.size ≤ s.size ∧ pv = .int .i64 p ∧ -1 ≤ p ∧ p ≤ 255 ∧ wide.length = 256 ∧ Hid (∀ n ∈ wide, n ≤ 48) ∧
      Hid (Pr.pairs (N - k) p wide t.data.toList = R) ∧ wr.ownsRow w.heap.size 3 1 (.slice (some ⟨w.heap.size, 0, none⟩) 256 256) 256 ((Hf.up wide).map Iv) ∧ Hid (Below w.heap.size w wr)) (fun _ _ i _ => N - (intOf i).toNat)
  case atStart => exact ⟨0, s, -1, List.replicate 256 0, by omega, rfl, rfl, Nat.le_refl _, rfl, by omega, by omega, by simp, fun n hn => by rw [List.eq_of_mem_replicate hn]; omega, HR, by simpa [Hf.up] using hown1, HB1⟩
  case round =>
    obtain ⟨k, t, p, wide, hk, rfl, rfl, hts, rfl, hp0, hp1, hwl, h48, HP, hown, hbel⟩ := hrel
    by_cases hlt : k < N
    · obtain ⟨j, hj⟩ : ∃ j, N - k = j + 1 := ⟨N - k - 1, by omega⟩
      have HJ : Hid (N - (k + 1) = j) := by show _ = _; omega
      rw [hj] at HP
      clear hj
      by_cases h2 : t.size < 2
      · have HE : Hid (R = ([], [], 3)) := by show R = _; rw [← HP.out]; exact (Pr.pairs_short j p wide _ (by rw [← Lib.size_eq]; exact h2))
        have hq : decide ((t.size : Int) < 2) = true := decide_eq_true (by omega)
        clear HP
        go_wp2_with fail
        go_ret3
        exact ⟨.slice none 0 0, ⟨#[]⟩, by rw [HE.out]; rfl, ⟨_, _, _, rfl⟩, Nat.zero_le _, fun h => by rw [HE.out] at h; simp at h, hbel.out⟩
      have hq : decide ((t.size : Int) < 2) = false := decide_eq_false (by omega)
      have J0 : (0 : Int) < (t.size : Int) := by omega
      have N0 : 0 < t.size := by omega
      have N1 : 1 < t.size := by omega
      have J1 : (1 : Int) < (t.size : Int) := by omega
      have b0 := t[0].toNat_lt
      have b1 := t[1].toNat_lt
      have hc := Pr.two_bytes t (by omega)
      rw [hc] at HP
      clear hc
      have HX : Hid ((t.extract 2 t.size).data.toList = t.data.toList.drop 2) := ext_toList t 2
      rw [← HX.out] at HP
      clear HX
      have HSZ : Hid ((t.extract 2 t.size).size ≤ s.size) := by show _ ≤ _; rw [ByteArray.size_extract]; omega
      generalize ha : t[0] = a at *
      generalize hb : t[1] = b at *
      have HC := Pr.pairs_cons j p wide a b (t.extract 2 t.size).data.toList
      by_cases hbad : (a.toNat : Int) ≤ p ∨ b.toNat = 0 ∨ 48 < b.toNat
      · have HE : Hid (R = ([], [], 4)) := by show R = _; rw [← HP.out, HC, if_pos hbad]
        clear HP HC
        by_cases x1 : (a.toNat : Int) ≤ p
        · clear hbad
          go_wp2_with fail
          go_region
          all_goals go_wp2_with fail
          all_goals go_ret3
          all_goals exact ⟨.slice none 0 0, ⟨#[]⟩, by rw [HE.out]; rfl, ⟨_, _, _, rfl⟩, Nat.zero_le _, fun h => by rw [HE.out] at h; simp at h, hbel.out.drew⟩
        by_cases x2 : (b.toNat : Int) < 1
        · clear hbad
          go_wp2_with fail
          go_region
          all_goals go_wp2_with fail
          all_goals go_ret3
          all_goals exact ⟨.slice none 0 0, ⟨#[]⟩, by rw [HE.out]; rfl, ⟨_, _, _, rfl⟩, Nat.zero_le _, fun h => by rw [HE.out] at h; simp at h, hbel.out.drew⟩
        have x3 : 48 < (b.toNat : Int) := by omega
        clear hbad
        go_wp2_with fail
        go_region
        all_goals go_wp2_with fail
        all_goals go_ret3
        all_goals exact ⟨.slice none 0 0, ⟨#[]⟩, by rw [HE.out]; rfl, ⟨_, _, _, rfl⟩, Nat.zero_le _, fun h => by rw [HE.out] at h; simp at h, hbel.out.drew⟩
      · rw [if_neg hbad] at HC
        have HN : Hid (Pr.pairs j a.toNat (wide.set a.toNat b.toNat) (t.extract 2 t.size).data.toList = R) := by show _ = R; rw [← HP.out, HC]
        have x1 : ¬ (a.toNat : Int) ≤ p := by omega
        have x2 : ¬ (b.toNat : Int) < 1 := by omega
        have x3 : ¬ 48 < (b.toNat : Int) := by omega
        have H48 : Hid (∀ n ∈ wide.set a.toNat b.toNat, n ≤ 48) := Pr.set_le h48.out (by omega)
        have HWL : Hid ((wide.set a.toNat b.toNat).length = 256) := by show _ = _; rw [List.length_set]; exact hwl
        clear HP HC hbad h48
        have y1 := own_at hown a.toNat (by rw [Hf.up_length, hwl]; exact b0)
        have y2 := hown.frozenAt a.toNat
        generalize (Hf.up wide)[a.toNat]'(by rw [Hf.up_length, hwl]; exact b0) = x at *
        have HO := own_store hown a.toNat (b.toNat : Int)
        rw [← Pr.up_set] at HO
        have HO' : Hid ((wr.setCell ⟨w.heap.size, a.toNat, none⟩ (.int .i64 (b.toNat : Int))).ownsRow w.heap.size 3 1 (.slice (some ⟨w.heap.size, 0, none⟩) 256 256) 256 ((Hf.up (wide.set a.toNat b.toNat)).map Iv)) := HO
        have HB2 : Hid (Below w.heap.size w (wr.setCell ⟨w.heap.size, a.toNat, none⟩ (.int .i64 (b.toNat : Int)))) := hbel.out.setCell (Nat.le_refl _) _
        clear HO hown hbel hwl
        go_wp2_with fail
        go_region
        all_goals go_wp2_with fail
        all_goals exact ⟨⟨k + 1, t.extract 2 t.size, a.toNat, wide.set a.toNat b.toNat, by omega, by go_num, rfl, HSZ.out, rfl, by omega, by omega, HWL.out, H48, by rw [HJ.out]; exact HN, row_below HO'.out ((Below.refl _ _).drew), HB2.out.drew⟩, by simp only [intOf]; omega⟩
    · obtain rfl : k = N := by omega
      have HE : Hid (R = (wide, t.data.toList, 0)) := by show R = _; rw [← HP.out, Nat.sub_self]; rfl
      clear HP HR
      go_wp2_with fail
      go_ret3
      exact ⟨_, t, by rw [HE.out]; rfl, ⟨_, _, _, rfl⟩, hts, fun _ => by rw [HE.out]; exact ⟨hown, rfl, hwl, h48.out⟩, hbel.out⟩
end Go.Proofs.Ytkhejelmjkpgfaa

namespace Go.Proofs.Ytkhejelmjkpgfaa
open Go.RowKit
set_option maxRecDepth 4000

set_option maxHeartbeats 400000 in
theorem num_put (n : Int) (w : World) (n0 : 0 ≤ n) (n1 : n ≤ 18446744073709551615) :
    Calls Try.prog 44 #[.int .u64 n] w fun e w' => e = .returned (.string ⟨(Nm.put n.toNat).toArray⟩) ∧ Below w.heap.size w w' := by
  have hl := Nm.dig_length_le n.toNat
  go_enter Try.func44, Try.ntmps44
  go_wp2_with (go_at_call 67; refine (count_any _ _ n0 n1).mono ?_; rintro e w' ⟨rfl, rfl⟩)
  refine (digits_app w'.heap.size _ [UInt8.ofNat ((Nm.dig n.toNat).length : Int).toNat] n _ 0 _ (owns_one _ _ (by omega) (by omega)) (by simp) (by simp) n0 n1 (by omega) (by omega) (by omega) (by omega)).mono ?_
  rintro e w2 ⟨v, rfl, hown, hbel⟩
  have hcv := run_str hown
  have hb : Below w'.heap.size w' w2 := ((Below.refl _ _).alloc (Nat.le_refl _) _).trans hbel
  clear hown hbel
  go_wp2
  go_ret
  exact ⟨by simp [Nm.put, Nm.tn_zero, Nm.dig_low], hb⟩
end Go.Proofs.Ytkhejelmjkpgfaa

namespace Go.Proofs.Ytkhejelmjkpgfaa
open Go.RowKit
set_option maxRecDepth 4000

set_option maxHeartbeats 1000000 in
theorem tally_any (s : ByteArray) (w : World) (hs : s.size ≤ 1048576) :
    Calls Try.prog 72 #[.string s] w fun e w' => ∃ v, e = .returned v ∧ w'.ownsRow w.heap.size 3 1 v 256 ((Hf.up (Pr.tally s.data.toList)).map Iv) ∧ Below w.heap.size w w' := by
  obtain ⟨i0, hi, hz0, hz1, hz2⟩ := info_parts info_int
  go_enter Try.func72, Try.ntmps72
  go_wp2_with (at_make; refine wpList_make_full _ rfl (.const (.int .i64 256)) (.const (.int .i64 256)) 82 rfl w.heap.size 3 i0 (.int .i64 0) 1 Try.underlying82 hi hz0 hz1 .i64 .i64 _ _ 256 rfl rfl rfl rfl (by rw [hz2]; omega) (by unfold maxLen; omega) (Nat.le_refl _) ?_; intro w1 hown hgrow)
  have hown1 := made_zeros hown
  have HB1 : Hid (Below w.heap.size w w1) := (Below.refl _ _).grown hgrow (Nat.le_refl _) (fun k hk => by cases hk)
  have HO1 : Hid (w1.ownsRow w.heap.size 3 1 (.slice (some ⟨w.heap.size, 0, none⟩) 256 256) 256 ((Hf.up (Pr.tally (s.data.toList.take 0))).map Iv)) := by
    have e : Hf.up (Pr.tally []) = List.replicate 256 (0 : Int) := by decide
    rw [List.take_zero, e]
    exact hown1
  clear hown hgrow hown1
  go_wp2_with fail
  go_loopw [8] (fun i wr => ∃ k : Nat, k ≤ s.size ∧ i = .int .i64 k ∧ wr.ownsRow w.heap.size 3 1 (.slice (some ⟨w.heap.size, 0, none⟩) 256 256) 256 ((Hf.up (Pr.tally (s.data.toList.take k))).map Iv) ∧ Hid (Below w.heap.size w wr)) (fun i _ => s.size - (intOf i).toNat)
  case atStart => exact ⟨0, by omega, rfl, HO1.out, HB1⟩
  case round =>
    obtain ⟨k, hk, rfl, hown, hbel⟩ := hrel
    by_cases hlt : k < s.size
    · have b0 := s[k].toNat_lt
      have HT : Hid (Pr.tally (s.data.toList.take (k + 1)) = (Pr.tally (s.data.toList.take k)).set s[k].toNat ((Pr.tally (s.data.toList.take k)).getD s[k].toNat 0 + 1)) := by
        show _ = _
        rw [take_snoc s k hlt, Pr.tally_snoc]
      have hle := Pr.tally_le (s.data.toList.take k)
      have hlen := Pr.tally_length (s.data.toList.take k)
      have hX := Hf.getD_le hle s[k].toNat
      have htl : (s.data.toList.take k).length ≤ k := List.length_take_le _ _
      generalize ha : s[k] = a at *
      generalize Pr.tally (s.data.toList.take k) = F at *
      have c0 := own_at hown a.toNat (by rw [Hf.up_length, hlen]; exact b0)
      rw [Hf.up_get] at c0
      have f0 := hown.frozenAt a.toNat
      have HO := own_store hown a.toNat ((F.getD a.toNat 0 + 1 : Nat) : Int)
      rw [← Pr.up_set, ← HT.out] at HO
      generalize F.getD a.toNat 0 = X at *
      have HO' : Hid ((wr.setCell ⟨w.heap.size, a.toNat, none⟩ (.int .i64 ((X : Int) + 1))).ownsRow w.heap.size 3 1 (.slice (some ⟨w.heap.size, 0, none⟩) 256 256) 256 ((Hf.up (Pr.tally (s.data.toList.take (k + 1)))).map Iv)) := HO
      have HB2 : Hid (Below w.heap.size w (wr.setCell ⟨w.heap.size, a.toNat, none⟩ (.int .i64 ((X : Int) + 1)))) := hbel.out.setCell (Nat.le_refl _) _
      clear HO hown hbel hlen hle HT HO1
      go_wp2_with fail
      go_roundw
      case rel => exact ⟨k + 1, by omega, by go_num, HO'.out, HB2⟩
      case measure => simp only [intOf]; omega
    · obtain rfl : k = s.size := by omega
      rw [List.take_of_length_le (by rw [← Lib.size_eq]; exact Nat.le_refl _)] at hown
      go_wp2_with fail
      go_ret
      exact ⟨_, rfl, hown, hbel.out⟩

set_option maxHeartbeats 1000000 in
theorem anum_any (base : Nat) (v : Value) (xs : List UInt8) (n : Nat) (w : World) (hown : w.ownsRow base 5 1 v xs.length (xs.map B)) (hb : base ≤ w.heap.size) (hx : xs.length ≤ 1048576) (hn : n ≤ 1048576) :
    Calls Try.prog 74 #[v, .int .i64 n] w fun e w' => ∃ v', e = .returned v' ∧ w'.ownsRow base 5 1 v' (xs ++ Nm.put n).length ((xs ++ Nm.put n).map B) ∧ Below base w w' ∧ Kept (fun k => v.ownBlock ≠ some k) w w' := by
  obtain ⟨i0, hi, hz0, hz1, hz2⟩ := info_parts info_u8
  obtain ⟨a, c, rfl⟩ := own_form hown
  have hp := num_put n w (by omega) (by omega)
  rw [Int.toNat_natCast] at hp
  have hl := Nm.dig_length_le n
  go_enter Try.func74, Try.ntmps74
  go_wp2_with fail
  refine hp.mono ?_
  rintro e w1 ⟨rfl, hb1⟩
  have hown1 := own_below hown hb1
  have hB1 : Below base w w1 := hb1.mono hb
  have hs1 := hB1.size
  have hpl : (Nm.put n).length ≤ 9 := by unfold Nm.put; simp only [List.length_cons]; omega
  have HPS : Hid ((⟨(Nm.put n).toArray⟩ : ByteArray).size = (Nm.put n).length) := by show (Nm.put n).toArray.size = _; rw [List.size_toArray]
  have HK1 : Hid (Kept (fun k => (Value.slice a xs.length c).ownBlock ≠ some k) w w1) := Kept.of_below hb1
  clear hp hb1 hown
  obtain ⟨S, hS⟩ : ∃ S : ByteArray, (⟨(Nm.put n).toArray⟩ : ByteArray) = S := ⟨_, rfl⟩
  have HS : Hid (Lib.strCells S = (Nm.put n).map B ∧ S.size = (Nm.put n).length) := by rw [← hS]; exact ⟨rfl, HPS.out⟩
  have hSz : S.size ≤ 9 := by rw [HS.out.2]; exact hpl
  rw [hS]
  clear hS HPS hpl
  go_wp2_with (at_builtin; refine Lib.wpList_append_own_string _ rfl (.tmp 5) (.tmp 8) 51 9 rfl base 5 i0 Try.underlying51 Try.underlying9 hi hz0 hz1 hz2 _ _ _ rfl hown1 S rfl ?c3 ?c4 ?c5 ?_)
  case c3 => unfold maxLen; omega
  case c4 => omega
  case c5 => omega
  intro v1 w3 hown3 hgrow _
  have HO : Hid (w3.ownsRow base 5 1 v1 (xs ++ Nm.put n).length ((xs ++ Nm.put n).map B)) := by
    rw [HS.out.1, HS.out.2] at hown3
    rw [List.length_append, List.map_append]
    exact hown3
  have HB3 : Hid (Below base w w3) := hB1.grown hgrow (by omega) fun j hj => (hown1.lt j hj).1
  have HK3 : Hid (Kept (fun k => (Value.slice a xs.length c).ownBlock ≠ some k) w w3) := HK1.out.grown hgrow fun k hk hp => hp hk
  clear hown3 hgrow hown1 hB1
  go_wp2_with fail
  go_ret
  exact ⟨_, rfl, HO.out, HB3.out, HK3.out⟩
end Go.Proofs.Ytkhejelmjkpgfaa

namespace Go.Proofs.Ytkhejelmjkpgfaa
open Go.RowKit
set_option maxRecDepth 4000

/-- the same row, or a row that is new -/
def Loc (v v' : Value) (N : Nat) : Prop := v'.ownBlock = v.ownBlock ∨ ∃ g, v'.ownBlock = some g ∧ N ≤ g
theorem Loc.mono {v v' : Value} {N M : Nat} (h : Loc v v' N) (hm : M ≤ N) : Loc v v' M := by
  rcases h with h | ⟨g, h1, h2⟩
  · exact .inl h
  · exact .inr ⟨g, h1, by omega⟩
/-- two rows that are not one -/
def Apart (v u : Value) : Prop := ∀ g, v.ownBlock = some g → u.ownBlock ≠ some g
theorem Apart.symm {v u : Value} (h : Apart v u) : Apart u v := fun g hg hv => h g hv hg
theorem Apart.left {v v' u : Value} {N : Nat} (h : Apart v u) (hl : Loc v v' N) (hu : ∀ g, u.ownBlock = some g → g < N) : Apart v' u := by
  intro g hg hgu
  rcases hl with hl | ⟨q, hq, hN⟩
  · exact h g (hl ▸ hg) hgu
  · rw [hq] at hg
    have := hu g hgu
    have : q = g := Option.some.inj hg
    omega
theorem Apart.right {v u u' : Value} {N : Nat} (h : Apart v u) (hl : Loc u u' N) (hv : ∀ g, v.ownBlock = some g → g < N) : Apart v u' := (h.symm.left hl hv).symm
theorem loc_own {base : Nat} {e : TypeId} {k n : Nat} {v : Value} {xs : List Value} {w : World} (h : w.ownsRow base e k v n xs) : ∀ g, v.ownBlock = some g → base ≤ g := fun g hg => (h.lt g hg).1
section
variable {P : Program} (w : World)
theorem run_append_str_at (base : Nat) (t u ty e : TypeId) (i : TypeInfo) (ht : P.underlying t = some (.slice e)) (hu : P.underlying u = some .string) (hi : P.info? e = some i) (hz : i.zero = some (.int .u8 0)) (hsize : i.size = 1) (hby : i.bytes = 1)
    (v : Value) (n : Nat) (xs : List Value) (hown : w.ownsRow base e 1 v n xs) (s : ByteArray) (h63 : n + s.size ≤ maxLen) (hbytes : n + s.size ≤ 140737488355328) (hbase : base ≤ w.heap.size) :
    ∃ v' w', (Builtin.append_ #[t, u] ty #[v, .string s]).run P w = .ok v' w' ∧ w'.ownsRow base e 1 v' (n + s.size) (xs ++ Lib.strCells s) ∧ w.grownBy w' v.ownBlock ∧ Loc v v' w.heap.size := by
  obtain ⟨v', w', hr, h1, h2, _⟩ := Lib.run_append_own_string (P := P) w base t u ty e i ht hu hi hz hsize hby v n xs hown s h63 hbytes hbase
  refine ⟨v', w', hr, h1, h2, ?_⟩
  rcases hown.2 with ⟨rfl, rfl⟩ | ⟨g, cap, cur, rfl, hbg, hg, hnc, hcm, hcs, htake⟩
  · obtain ⟨v'', w'', hr', h1', _⟩ := Lib.run_append_own_string (P := P) w w.heap.size t u ty e i ht hu hi hz hsize hby (.slice none 0 0) 0 [] (World.ownsRow_nil _ _ _ _) s (by omega) (by omega) (Nat.le_refl _)
    rw [hr] at hr'
    obtain ⟨rfl, rfl⟩ := Result.ok.inj hr'
    rcases h1'.2 with ⟨rfl, _⟩ | ⟨q, _, _, rfl, hq, _⟩
    · exact .inl rfl
    · exact .inr ⟨q, rfl, hq⟩
  · by_cases hroom : n + s.size ≤ cap
    · have hcs' : cur.size = cap := by simpa using hcs
      have hr' := Lib.run_append_room_string (P := P) w t u ty e i ht hu hi hsize g n cap cur hg s hroom (by omega)
      rw [hr] at hr'
      obtain ⟨rfl, rfl⟩ := Result.ok.inj hr'
      exact .inl rfl
    · have hr' := Lib.run_append_grow_string (P := P) w t u ty e i (.int .u8 0) ht hu hi hz ⟨g, 0, none⟩ n cap xs (by rw [hsize]; simpa using hown.1) (hown.cells (g := g) rfl) s (by omega) (by simp only [maxLen] at h63; omega) (by rw [hby]; exact growslice_fits (by omega) (by omega))
      rw [hr] at hr'
      obtain ⟨rfl, rfl⟩ := Result.ok.inj hr'
      exact .inr ⟨_, rfl, Nat.le_refl _⟩
theorem wpList_append_str_at {ops : Array Oper} {rest : List Oper} {o : Oper} {a : Act} {Q : Exit → Act → World → Prop} (hgd : o.guard = none) (sl x : Operand) (t u : TypeId)
    (ho : o.op = .call { callee := .builtin .append, args := #[sl, x], argTypes := #[t, u] })
    (base : Nat) (e : TypeId) (i : TypeInfo) (ht : P.underlying t = some (.slice e)) (hu : P.underlying u = some .string) (hi : P.info? e = some i) (hz : i.zero = some (.int .u8 0)) (hsize : i.size = 1) (hby : i.bytes = 1)
    (v : Value) (n : Nat) (xs : List Value) (hs : a.eval sl = v) (hown : w.ownsRow base e 1 v n xs) (s : ByteArray) (hx : a.eval x = .string s) (h63 : n + s.size ≤ maxLen) (hbytes : n + s.size ≤ 140737488355328) (hbase : base ≤ w.heap.size)
    (h : ∀ v' w', w'.ownsRow base e 1 v' (n + s.size) (xs ++ Lib.strCells s) → w.grownBy w' v.ownBlock → Loc v v' w.heap.size → wpList P ops Q rest (a.put o.dst v') w') : wpList P ops Q (o :: rest) a w := by
  refine wpList_plain hgd fun K hK => ?_
  obtain ⟨v', w', hr, h2, h3, h4⟩ := run_append_str_at (P := P) w base t u o.type e i ht hu hi hz hsize hby v n xs hown s h63 hbytes hbase
  unfold Oper.wp execOp
  simp only [ho, resolve, invoke, builtin, Sem.run_bind, Sem.run_pure, Result.andThen_ok, List.map_toArray, List.map_cons, List.map_nil, hs, hx, hr]
  exact hK _ _ (h v' w' h2 h3 h4)
end

set_option maxHeartbeats 1000000 in
theorem pnum_any (base : Nat) (v : Value) (xs : List UInt8) (n : Nat) (w : World) (hown : w.ownsRow base 5 1 v xs.length (xs.map B)) (hb : base ≤ w.heap.size) (hx : xs.length ≤ 1048576) (hn : n ≤ 1048576) :
    Calls Try.prog 28 #[v, .int .i64 n] w fun e w' => ∃ v', e = .returned v' ∧ w'.ownsRow base 5 1 v' (xs ++ Nm.put n).length ((xs ++ Nm.put n).map B) ∧ Below base w w' ∧ Kept (fun k => v.ownBlock ≠ some k) w w' ∧ Loc v v' w.heap.size := by
  obtain ⟨i0, hi, hz0, hz1, hz2⟩ := info_parts info_u8
  obtain ⟨a, c, rfl⟩ := own_form hown
  have hp := num_put n w (by omega) (by omega)
  rw [Int.toNat_natCast] at hp
  have hl := Nm.dig_length_le n
  go_enter Try.func28, Try.ntmps28
  go_wp2_with fail
  refine hp.mono ?_
  rintro e w1 ⟨rfl, hb1⟩
  have hown1 := own_below hown hb1
  have hB1 : Below base w w1 := hb1.mono hb
  have hs1 := hB1.size
  have hpl : (Nm.put n).length ≤ 9 := by unfold Nm.put; simp only [List.length_cons]; omega
  have HPS : Hid ((⟨(Nm.put n).toArray⟩ : ByteArray).size = (Nm.put n).length) := by show (Nm.put n).toArray.size = _; rw [List.size_toArray]
  have HK1 : Hid (Kept (fun k => (Value.slice a xs.length c).ownBlock ≠ some k) w w1) := Kept.of_below hb1
  clear hp hb1 hown
  obtain ⟨S, hS⟩ : ∃ S : ByteArray, (⟨(Nm.put n).toArray⟩ : ByteArray) = S := ⟨_, rfl⟩
  have HS : Hid (Lib.strCells S = (Nm.put n).map B ∧ S.size = (Nm.put n).length) := by rw [← hS]; exact ⟨rfl, HPS.out⟩
  have hSz : S.size ≤ 9 := by rw [HS.out.2]; exact hpl
  rw [hS]
  clear hS HPS hpl
  go_wp2_with (at_builtin; refine wpList_append_str_at _ rfl (.tmp 5) (.tmp 8) 51 9 rfl base 5 i0 Try.underlying51 Try.underlying9 hi hz0 hz1 hz2 _ _ _ rfl hown1 S rfl ?c3 ?c4 ?c5 ?_)
  case c3 => unfold maxLen; omega
  case c4 => omega
  case c5 => omega
  intro v1 w3 hown3 hgrow hloc
  have HLoc : Hid (Loc (.slice a xs.length c) v1 w.heap.size) := hloc.mono hs1
  have HO : Hid (w3.ownsRow base 5 1 v1 (xs ++ Nm.put n).length ((xs ++ Nm.put n).map B)) := by
    rw [HS.out.1, HS.out.2] at hown3
    rw [List.length_append, List.map_append]
    exact hown3
  have HB3 : Hid (Below base w w3) := hB1.grown hgrow (by omega) fun j hj => (hown1.lt j hj).1
  have HK3 : Hid (Kept (fun k => (Value.slice a xs.length c).ownBlock ≠ some k) w w3) := HK1.out.grown hgrow fun k hk hp => hp hk
  clear hown3 hgrow hown1 hB1 hloc
  go_wp2_with fail
  go_ret
  exact ⟨_, rfl, HO.out, HB3.out, HK3.out, HLoc.out⟩

end Go.Proofs.Ytkhejelmjkpgfaa

namespace Go.Proofs.Ytkhejelmjkpgfaa
open Go.RowKit
set_option maxRecDepth 4000

theorem own_some {base : Nat} {e : TypeId} {k n : Nat} {w : World} {v : Value} {xs : List Value} (h : w.ownsRow base e k v n xs) (hn : 0 < n) : ∃ g c, v = .slice (some ⟨g, 0, none⟩) n c := by
  rcases h.2 with ⟨_, h0⟩ | ⟨g, cap, cur, hv, _⟩
  · omega
  · exact ⟨g, cap, hv⟩
theorem own_bytes_at {base : Nat} {w : World} {g c n : Nat} {xs : List Value} {T : TypeId} {k : Nat} (h : w.ownsRow base T k (.slice (some ⟨g, 0, none⟩) n c) n xs) : ∀ j u, xs[j]? = some u → w.cell? ((⟨g, 0, none⟩ : Addr).add j) = some u := fun j u hj => World.ownsRow.cells h (g := g) rfl j u hj
theorem B_one (l : List UInt8) : ∀ u ∈ l.map B, u.oneCell' = true := by
  intro u hu
  obtain ⟨q, _, rfl⟩ := List.mem_map.1 hu
  rfl

theorem two_cells {n : Nat} (h : n ≤ 60000) : ([.int .u8 ((n : Int) % 256), .int .u8 ((n : Int) / 256)] : List Value) = (Pk.two n).map B := by
  have h1 : (UInt8.ofNat (n % 256)).toNat = n % 256 := by rw [UInt8.toNat_ofNat']; omega
  have h2 : (UInt8.ofNat (n / 256)).toNat = n / 256 := by rw [UInt8.toNat_ofNat']; omega
  simp only [Pk.two, List.map_cons, List.map_nil, B, h1, h2]
  rfl
theorem pair_cells (w : World) (t : TypeId) (x y : Value) : ∀ j u, ([x, y] : List Value)[j]? = some u → (w.alloc (.cells #[x, y] t)).cell? ((⟨w.heap.size, 0, none⟩ : Addr).add j) = some u := by
  intro j u hj
  rw [show ((⟨w.heap.size, 0, none⟩ : Addr).add j) = ⟨w.heap.size, j, none⟩ from by unfold Addr.add; split <;> simp_all, cell_of_row _ w.heap.size j _ _ _ (heap_alloc_new w _)]
  match j, hj with
  | 0, hj => exact hj
  | 1, hj => exact hj

set_option maxHeartbeats 2000000 in
theorem seal_of (b0 b1 b2 b3 b4 b5 b6 b7 : UInt8) (Lb Ll : List UInt8) (vb vl : Value) (base : Nat) (w : World) (hb : base ≤ w.heap.size) (hlb : Lb.length ≤ 1000000) (hll : Ll.length ≤ 60000) (h0 : 0 < Ll.length)
    (hob : w.ownsRow base 5 1 vb Lb.length (Lb.map B)) (hol : w.ownsRow base 5 1 vl Ll.length (Ll.map B))
    (hn : ∀ W, Calls Try.prog 24 #[.string ⟨(Lb ++ Ll ++ Pk.two Ll.length).toArray⟩] W fun e w' => e = .returned (.agg #[.int .u8 (b0.toNat : Int), .int .u8 (b1.toNat : Int), .int .u8 (b2.toNat : Int), .int .u8 (b3.toNat : Int), .int .u8 (b4.toNat : Int), .int .u8 (b5.toNat : Int), .int .u8 (b6.toNat : Int), .int .u8 (b7.toNat : Int)]) ∧ Below W.heap.size W w') :
    Calls Try.prog 30 #[vb, vl] w fun e w' => e = .returned (.string ⟨(Lb ++ Ll ++ Pk.two Ll.length ++ [b0, b1, b2, b3, b4, b5, b6, b7]).toArray⟩) ∧ Below base w w' := by
  obtain ⟨i0, hi, hz0, hz1, hz2⟩ := info_parts info_u8
  obtain ⟨g, cl, rfl⟩ := own_some hol h0
  have hcl := own_bytes_at hol
  obtain ⟨ab, cb, rfl⟩ := own_form hob
  obtain ⟨R, hR⟩ : ∃ R, Lb ++ Ll ++ Pk.two Ll.length ++ [b0, b1, b2, b3, b4, b5, b6, b7] = R := ⟨_, rfl⟩
  have HR : Hid (Lb ++ Ll ++ Pk.two Ll.length ++ [b0, b1, b2, b3, b4, b5, b6, b7] = R) := hR
  rw [hR]
  clear hR
  go_enter Try.func30, Try.ntmps30
  go_wp2_with (at_builtin; refine wpList_append_own _ rfl (.tmp 7) (.tmp 8) 51 rfl base 5 i0 (.int .u8 0) 1 1 Try.underlying51 hi hz0 hz1 hz2 rfl (by decide) _ _ _ rfl hob ⟨g, 0, none⟩ Ll.length cl (Ll.map B) rfl ?c0 ?c1 ?c2 ?c3 ?c4 ?c5 ?_)
  case c0 => simp
  case c1 => exact hcl
  case c2 => exact B_one Ll
  case c3 => unfold maxLen; omega
  case c4 => omega
  case c5 => exact hb
  intro v1 w1 hown1 hgrow1 _
  have hrow1 : w1.ownsRow base 5 1 v1 (Lb ++ Ll).length ((Lb ++ Ll).map B) := by
    rw [List.length_append, List.map_append]; exact hown1
  have hB1 : Below base w w1 := (Below.refl _ w).grown hgrow1 hb fun j hj => (hob.lt j hj).1
  have hs1 := hB1.size
  obtain ⟨n, hnn⟩ : ∃ n, Ll.length = n := ⟨_, rfl⟩
  have hl1 : (Lb ++ Ll).length ≤ 1060000 := by rw [List.length_append]; omega
  have hn6 : n ≤ 60000 := by omega
  generalize Lb ++ Ll = L1 at *
  rw [hnn] at hn HR ⊢
  obtain ⟨a1, c1, rfl⟩ := own_form hrow1
  clear hown1 hgrow1 hob hol hcl hll h0 hlb hnn
  go_wp2_with (at_builtin; refine wpList_append_own _ rfl (.tmp 10) (.tmp 18) 51 rfl base 5 i0 (.int .u8 0) 1 1 Try.underlying51 hi hz0 hz1 hz2 rfl (by decide) _ _ _ rfl (hrow1.alloc _) ⟨w1.heap.size, 0, none⟩ 2 2 [.int .u8 ((n : Int) % 256), .int .u8 ((n : Int) / 256)] rfl rfl ?d1 ?d2 ?d3 ?d4 ?d5 ?_)
  case d1 => exact pair_cells w1 _ _ _
  case d2 => intro u hu; simp at hu; rcases hu with rfl | rfl <;> rfl
  case d3 => unfold maxLen; omega
  case d4 => omega
  case d5 => simp; omega
  intro v2 w2 hown2 hgrow2 _
  have hrow2 : w2.ownsRow base 5 1 v2 (L1 ++ Pk.two n).length ((L1 ++ Pk.two n).map B) := by
    rw [List.length_append, List.map_append, ← two_cells hn6]; exact hown2
  have hB2 : Below base w w2 := (hB1.alloc (by omega) _).grown hgrow2 (by simp; omega) fun j hj => (hrow1.lt j hj).1
  have hs2 := hB2.size
  have hl2 : (L1 ++ Pk.two n).length ≤ 1060002 := by rw [List.length_append]; have : (Pk.two n).length = 2 := rfl; omega
  have hstr := run_str hrow2
  generalize L1 ++ Pk.two n = L2 at *
  obtain ⟨a2, c2, rfl⟩ := own_form hrow2
  clear hown2 hgrow2 hrow1 hl1 hB1
  go_wp2_with fail
  refine (hn _).mono ?_
  rintro e w3 ⟨rfl, hb3⟩
  have hrow3 := own_below hrow2 hb3
  have hB3 : Below base w w3 := hB2.trans (hb3.mono (by omega))
  have hs3 := hB3.size
  clear hrow2 hstr hb3 hB2 hn
  go_wp2_with (at_builtin; refine wpList_append_own _ rfl (.tmp 23) (.tmp 24) 51 rfl base 5 i0 (.int .u8 0) 1 1 Try.underlying51 hi hz0 hz1 hz2 rfl (by decide) _ _ _ rfl (hrow3.alloc _) ⟨w3.heap.size, 0, none⟩ 8 8 (List.map B [b0, b1, b2, b3, b4, b5, b6, b7]) rfl rfl ?e1 ?e2 ?e3 ?e4 ?e5 ?_)
  case e1 => exact eight_at (cells8 w3 _ b0 b1 b2 b3 b4 b5 b6 b7)
  case e2 => exact B_one _
  case e3 => unfold maxLen; omega
  case e4 => omega
  case e5 => simp; omega
  intro v4 w4 hown4 hgrow4 _
  have hrow4 : w4.ownsRow base 5 1 v4 (L2 ++ [b0, b1, b2, b3, b4, b5, b6, b7]).length ((L2 ++ [b0, b1, b2, b3, b4, b5, b6, b7]).map B) := by
    rw [List.length_append, List.map_append]; exact hown4
  have HB4 : Hid (Below base w w4) := (hB3.alloc (by omega) _).grown hgrow4 (by simp; omega) fun j hj => (hrow3.lt j hj).1
  have hstr := run_str hrow4
  generalize L2 ++ [b0, b1, b2, b3, b4, b5, b6, b7] = L3 at *
  obtain ⟨a4, c4, rfl⟩ := own_form hrow4
  clear hown4 hgrow4 hrow4 hrow3 hB3
  go_wp2_with fail
  go_ret
  exact ⟨by rw [← HR.out]; rfl, HB4.out⟩

theorem seal_any (Lb Ll : List UInt8) (vb vl : Value) (base : Nat) (w : World) (hb : base ≤ w.heap.size) (hlb : Lb.length ≤ 1000000) (hll : Ll.length ≤ 60000) (h0 : 0 < Ll.length)
    (hob : w.ownsRow base 5 1 vb Lb.length (Lb.map B)) (hol : w.ownsRow base 5 1 vl Ll.length (Ll.map B)) :
    Calls Try.prog 30 #[vb, vl] w fun e w' => e = .returned (.string ⟨(Lb ++ Ll ++ Pk.two Ll.length ++ Pk.dg (Lb ++ Ll ++ Pk.two Ll.length)).toArray⟩) ∧ Below base w w' := by
  obtain ⟨b0, b1, b2, b3, b4, b5, b6, b7, hL⟩ := eight _ (Pk.dg_length (Lb ++ Ll ++ Pk.two Ll.length))
  rw [hL]
  refine seal_of b0 b1 b2 b3 b4 b5 b6 b7 Lb Ll vb vl base w hb hlb hll h0 hob hol fun W => ?_
  have := id_any ⟨(Lb ++ Ll ++ Pk.two Ll.length).toArray⟩ W (by rw [Lib.size_eq]; simp only [List.length_append]; have : (Pk.two Ll.length).length = 2 := rfl; omega)
  rw [show Nm.low 8 (Mx.narrow 64 (⟨(Lb ++ Ll ++ Pk.two Ll.length).toArray⟩ : ByteArray).data.toList) = [b0, b1, b2, b3, b4, b5, b6, b7] from hL] at this
  exact this
end Go.Proofs.Ytkhejelmjkpgfaa

namespace Go.Proofs.Ytkhejelmjkpgfaa
open Go.RowKit
set_option maxRecDepth 4000

namespace Pr
/-- the bytes that are there ahead of k, each with its length -/
def headTo (l : List Nat) : Nat → Bs
  | 0 => []
  | k + 1 => if 0 < l.getD k 0 then headTo l k ++ [UInt8.ofNat k, UInt8.ofNat (l.getD k 0)] else headTo l k
theorem head_to (l : List Nat) (k n : Nat) : headTo l k ++ headFrom l k n = headTo l (k + n) := by
  induction n generalizing k with
  | zero => simp [headFrom]
  | succ n ih =>
    rw [show k + (n + 1) = (k + 1) + n by omega, ← ih, headFrom, headTo]
    split
    · rw [List.append_assoc]; rfl
    · rfl
theorem headTo_all (l : List Nat) (n : Nat) : headTo l n = headFrom l 0 n := by
  have := head_to l 0 n
  rw [Nat.zero_add] at this
  rw [← this]
  rfl
theorem headTo_len (l : List Nat) (k : Nat) : (headTo l k).length ≤ 2 * k := by
  induction k with
  | zero => exact Nat.le_refl _
  | succ k ih =>
    rw [headTo]
    split
    · rw [List.length_append]; simp only [List.length_cons, List.length_nil]; omega
    · omega
end Pr
theorem two_atp {W : World} {B : Nat} {x y : Value} (h0 : W.cell? ⟨B, 0, none⟩ = some x) (h1 : W.cell? ⟨B, 1, none⟩ = some y) : ∀ j u, [x, y][j]? = some u → W.cell? ((⟨B, 0, none⟩ : Addr).add j) = some u := by
  intro j u hj
  rw [Addr.add_mid, Nat.zero_add]
  match j, hj with
  | 0, hj => rw [h0]; exact hj
  | 1, hj => rw [h1]; exact hj

set_option maxHeartbeats 4000000 in
theorem alens_any (base : Nat) (v u : Value) (xs : List UInt8) (l : List Nat) (w : World) (hown : w.ownsRow base 5 1 v xs.length (xs.map B)) (hb : base ≤ w.heap.size) (hx : xs.length ≤ 1000000) (h : Ints w u (Hf.up l)) (hl : l.length ≤ 256) (h48 : ∀ n ∈ l, n ≤ 48) :
    Calls Try.prog 75 #[v, u] w fun e w' => ∃ v', e = .returned v' ∧ w'.ownsRow base 5 1 v' (xs ++ (Nm.put (Pr.manyFrom l 0 l.length) ++ Pr.headFrom l 0 l.length)).length ((xs ++ (Nm.put (Pr.manyFrom l 0 l.length) ++ Pr.headFrom l 0 l.length)).map B) ∧ Below base w w' := by
  obtain ⟨i0, hi, hz0, hz1, hz2⟩ := info_parts info_u8
  obtain ⟨va, vc, rfl⟩ := own_form hown
  obtain ⟨a, c, rfl⟩ := h.slice
  rw [Hf.up_length] at h ⊢
  have HI : Hid (Ints w (.slice a l.length c) (Hf.up l)) := h
  have HV : Hid (w.ownsRow base 5 1 (.slice va xs.length vc) xs.length (xs.map B)) := hown
  have H48 : Hid (∀ n ∈ l, n ≤ 48) := h48
  clear h hown h48
  go_enter Try.func75, Try.ntmps75
  go_wp2_with fail
  go_loopw [5, 10] (fun pv i wr => ∃ k : Nat, k ≤ l.length ∧ i = .int .i64 k ∧ wr.ownsRow w.heap.size 5 1 pv (Pr.headTo l k).length ((Pr.headTo l k).map B) ∧ Hid (Below w.heap.size w wr)) (fun _ i _ => l.length - (intOf i).toNat)
  case atStart => exact ⟨0, by omega, rfl, World.ownsRow_nil _ _ _ _, Below.refl _ _⟩
  case round =>
    obtain ⟨k, hk, rfl, hown, hbel⟩ := hrel
    obtain ⟨a5, c5, rfl⟩ := own_form hown
    have hhl := Pr.headTo_len l k
    by_cases hlt : k < l.length
    · obtain ⟨bk, o, rfl, hbk0, c0⟩ := (HI.out.below (Nat.le_refl _) hbel.out).getN k hlt
      have hn48 := Hf.getD_le H48.out k
      have HH : Hid (Pr.headTo l (k + 1) = if 0 < l.getD k 0 then Pr.headTo l k ++ [UInt8.ofNat k, UInt8.ofNat (l.getD k 0)] else Pr.headTo l k) := rfl
      generalize l.getD k 0 = n at *
      by_cases hn : 0 < n
      · have HH2 : Hid (Pr.headTo l (k + 1) = Pr.headTo l k ++ [UInt8.ofNat k, UInt8.ofNat n]) := by show _ = _; rw [HH.out, if_pos hn]
        have hk8 : IntKind.u8.wrap (k : Int) = (k : Int) := by simp only [IntKind.wrap, IntKind.bits, IntKind.signed]; simp; omega
        have hn8 : IntKind.u8.wrap (n : Int) = (n : Int) := by simp only [IntKind.wrap, IntKind.bits, IntKind.signed]; simp; omega
        have hbs := hbel.out.size
        generalize Pr.headTo l k = H at *
        clear HH
        go_wp2_with (at_builtin; refine wpList_append_own _ rfl (.tmp 17) (.tmp 22) 51 rfl w.heap.size 5 i0 (.int .u8 0) 1 1 Try.underlying51 hi hz0 hz1 hz2 rfl (by decide) _ _ _ rfl (hown.alloc _) ⟨wr.heap.size, 0, none⟩ 2 2 [.int .u8 (k : Int), .int .u8 (n : Int)] rfl rfl ?c1 ?c2 ?c3 ?c4 ?c5 ?_)
        case c1 => exact two_atp (by simp) (by simp)
        case c2 =>
          intro u hu
          simp at hu
          rcases hu with rfl | rfl <;> rfl
        case c3 => unfold maxLen; omega
        case c4 => omega
        case c5 => simp; omega
        intro v1 w3 hown3 hgrow _
        have HO : Hid (w3.ownsRow w.heap.size 5 1 v1 (Pr.headTo l (k + 1)).length ((Pr.headTo l (k + 1)).map B)) := by
          show w3.ownsRow _ _ _ _ _ _
          rw [HH2.out]
          have e1 : (UInt8.ofNat k).toNat = k := by rw [UInt8.toNat_ofNat']; omega
          have e2 : (UInt8.ofNat n).toNat = n := by rw [UInt8.toNat_ofNat']; omega
          simpa [B, e1, e2] using hown3
        have HB3 : Hid (Below w.heap.size w w3) := (hbel.out.alloc (by omega) _).grown hgrow (by simp; omega) fun j hj => (hown.lt j hj).1
        clear hown3 hgrow hown hbel c0
        go_wp2_with fail
        go_roundw
        case rel => exact ⟨k + 1, by omega, by go_num, HO.out, HB3⟩
        case measure => simp only [intOf]; omega
      · have HH2 : Hid (Pr.headTo l (k + 1) = Pr.headTo l k) := by show _ = _; rw [HH.out, if_neg hn]
        have HO : Hid (wr.ownsRow w.heap.size 5 1 (.slice a5 (Pr.headTo l k).length c5) (Pr.headTo l (k + 1)).length ((Pr.headTo l (k + 1)).map B)) := by rw [HH2.out]; exact hown
        clear HH hown
        generalize (Pr.headTo l k).length = z at *
        go_wp2_with fail
        go_roundw
        case rel => exact ⟨k + 1, by omega, by go_num, HO.out, hbel⟩
        case measure => simp only [intOf]; omega
    · obtain rfl : k = l.length := by omega
      have hhl := Pr.head_length l 0 l.length
      have hml := Pr.many_le l 0 l.length
      rw [← Pr.headTo_all] at hhl
      have HHA : Hid (Pr.headTo l l.length = Pr.headFrom l 0 l.length) := Pr.headTo_all l l.length
      generalize Pr.headTo l l.length = H at *
      have hq : ((H.length : Int)) / 2 = (Pr.manyFrom l 0 l.length : Nat) := by omega
      have hrow := row_below HV.out hbel.out
      have hwr := hbel.out.size
      have hn := anum_any base (.slice va xs.length vc) xs (Pr.manyFrom l 0 l.length) wr hrow (by omega) (by omega) (by omega)
      have HNA : Hid (∀ g, (Value.slice a5 H.length c5).ownBlock = some g → (Value.slice va xs.length vc).ownBlock ≠ some g) := by
        intro g hg e
        obtain ⟨_, _, h1⟩ := own_block hown hg
        obtain ⟨cur, h2, _⟩ := own_block HV.out e
        have := (Array.getElem?_eq_some_iff.1 h2).1
        omega
      have hpl : (Nm.put (Pr.manyFrom l 0 l.length)).length ≤ 9 := by
        have := Nm.dig_length_le (Pr.manyFrom l 0 l.length)
        unfold Nm.put
        simp only [List.length_cons]
        omega
      generalize hMM : Pr.manyFrom l 0 l.length = M at hhl hml hq hn hpl
      have HMM : Hid (Pr.manyFrom l 0 l.length = M) := hMM
      clear hrow hMM hhl
      go_wp2_with fail
      refine hn.mono ?_
      rintro e w5 ⟨v5, rfl, hrow5, hb5, hk5⟩
      have hown5 := own_kept hown hk5 HNA.out
      have hB5 : Below base w w5 := (hbel.out.mono hb).trans hb5
      have HB5 : Hid (Below base w w5) := hB5
      have hs5 := hB5.size
      have HL5 : Hid (xs ++ (Nm.put M ++ H) = (xs ++ Nm.put M) ++ H) := by show _ = _; rw [List.append_assoc]
      have hXl : (xs ++ Nm.put M).length ≤ 1000009 := by rw [List.length_append]; omega
      generalize xs ++ Nm.put M = X at *
      obtain ⟨b5, d5, rfl⟩ := own_form hrow5
      clear hn hb5 hk5 hB5 HNA hown hbel hpl
      rcases hown5.2 with ⟨hv, h0⟩ | ⟨g, cap, cur, hv, _⟩
      · have h00 : H = [] := List.length_eq_zero_iff.1 h0
        subst h00
        simp at hv
        obtain ⟨rfl, rfl⟩ := hv
        have HO : Hid (w5.ownsRow base 5 1 (.slice b5 X.length d5) (X ++ []).length ((X ++ []).map B)) := by rw [List.append_nil]; exact hrow5
        go_wp2_with (at_builtin; refine wpList_append_own_none rfl (.tmp 30) (.tmp 31) 51 rfl base 5 i0 1 Try.underlying51 hi _ _ _ rfl hrow5 rfl ?_)
        go_ret
        exact ⟨_, rfl, by rw [HMM.out, ← HHA.out, HL5.out]; exact HO.out, HB5.out⟩
      · simp at hv
        obtain ⟨rfl, rfl⟩ := hv
        have hcs := hown5.cells (g := g) rfl
        go_wp2_with (at_builtin; refine wpList_append_own _ rfl (.tmp 30) (.tmp 31) 51 rfl base 5 i0 (.int .u8 0) 1 1 Try.underlying51 hi hz0 hz1 hz2 rfl (by decide) _ _ _ rfl hrow5 ⟨g, 0, none⟩ H.length c5 (H.map B) rfl ?c0 ?c1 ?c2 ?c3 ?c4 ?c5 ?_)
        case c0 => simp
        case c1 => exact hcs
        case c2 =>
          intro u hu
          obtain ⟨b, _, rfl⟩ := List.mem_map.1 hu
          rfl
        case c3 => unfold maxLen; omega
        case c4 => omega
        case c5 => omega
        intro v1 w6 hown6 hgrow _
        have HO : Hid (w6.ownsRow base 5 1 v1 (X ++ H).length ((X ++ H).map B)) := by
          show w6.ownsRow _ _ _ _ _ _
          rw [List.length_append, List.map_append]
          exact hown6
        have HB6 : Hid (Below base w w6) := HB5.out.grown hgrow (by omega) fun j hj => (hrow5.lt j hj).1
        clear hown6 hgrow hrow5 hown5 hcs
        go_wp2_with fail
        go_ret
        exact ⟨_, rfl, by rw [HMM.out, ← HHA.out, HL5.out]; exact HO.out, HB6.out⟩
end Go.Proofs.Ytkhejelmjkpgfaa
