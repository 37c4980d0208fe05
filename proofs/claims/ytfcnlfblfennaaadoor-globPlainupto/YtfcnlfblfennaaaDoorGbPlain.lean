/-
  P40, P41 (no Go in it): signs behind backslashes mean themselves.
-/
import Derived.Test.YtfcnlfblfennaaaDoorGbLaws
namespace Go.Proofs.YtfcnlfblfennaaaDoor
namespace Gb
open Nn (Name chars chr cut split join joinB tails errs nm)

/-- does that byte mean something in a pattern? -/
def spc (b : UInt8) : Bool := b == 42 || b == 63 || b == 91 || b == 92
def esc1 (b : UInt8) : List UInt8 := if spc b then [92, b] else [b]
/-- a pattern of just that path -/
def esc (l : List UInt8) : List UInt8 := l.flatMap esc1
def escC (c : Nat) : List Nat := if c = 42 ∨ c = 63 ∨ c = 91 ∨ c = 92 then [92, c] else [c]
theorem esc_app (a b : List UInt8) : esc (a ++ b) = esc a ++ esc b := by simp [esc]
theorem spc_nat (b : UInt8) : spc b = decide (b.toNat = 42 ∨ b.toNat = 63 ∨ b.toNat = 91 ∨ b.toNat = 92) := by
  have e : ∀ n : Nat, n < 256 → ((b == UInt8.ofNat n) = decide (b.toNat = n)) := fun n hn => by
    by_cases h : b.toNat = n
    · rw [decide_eq_true h, beq_iff_eq]
      refine UInt8.toNat_inj.1 ?_
      rw [h, UInt8.toNat_ofNat', Nat.mod_eq_of_lt (by simpa using hn)]
    · rw [decide_eq_false h, beq_eq_false_iff_ne]
      intro q
      rw [q, UInt8.toNat_ofNat', Nat.mod_eq_of_lt (by simpa using hn)] at h
      exact h rfl
  unfold spc
  rw [show (42 : UInt8) = UInt8.ofNat 42 from rfl, show (63 : UInt8) = UInt8.ofNat 63 from rfl, show (91 : UInt8) = UInt8.ofNat 91 from rfl, show (92 : UInt8) = UInt8.ofNat 92 from rfl, e 42 (by omega), e 63 (by omega), e 91 (by omega), e 92 (by omega)]
  simp only [Bool.decide_or, Bool.or_assoc]
theorem chars_one (b : UInt8) (h : b.toNat < 128) : chars [b] = some [b.toNat] := by
  rw [Nn.chars_step _ (by simp), Nn.chr_ascii b [] h, if_neg (by simp)]
  rfl
theorem chars_esc1 (b : UInt8) (h : b.toNat < 128) : chars (esc1 b) = some (escC b.toNat) := by
  unfold esc1 escC
  by_cases hs : b.toNat = 42 ∨ b.toNat = 63 ∨ b.toNat = 91 ∨ b.toNat = 92
  · rw [spc_nat, decide_eq_true hs, if_pos rfl, if_pos hs]
    have := Nn.chars_app [92] [b] [92] (chars_one 92 (by decide))
    rw [chars_one b h] at this
    exact this
  · rw [spc_nat, decide_eq_false hs, if_neg (by simp), if_neg hs]
    exact chars_one b h
theorem esc_high : ∀ (l : List UInt8), (∀ b ∈ l, 128 ≤ b.toNat) → esc l = l
  | [], _ => rfl
  | b :: l, h => by
    have h1 := h b (List.mem_cons_self ..)
    show esc1 b ++ esc l = b :: l
    rw [esc_high l fun c hc => h c (List.mem_cons_of_mem _ hc), esc1, spc_nat, decide_eq_false (by omega), if_neg (by simp)]
    rfl
/-- the characters of a text whose signs were put behind backslashes -/
theorem chars_esc : ∀ (s : List UInt8) (cs : List Nat), chars s = some cs → chars (esc s) = some (cs.flatMap escC) := by
  intro s
  induction s using Nn.chars_ind with
  | h0 => intro cs h; rw [Nn.chars_nil] at h; cases h; rfl
  | hs s hne ih =>
    intro cs h
    rw [Nn.chars_step s hne] at h
    by_cases c : (chr s).2 = 0
    · rw [if_pos c] at h; cases h
    rw [if_neg c] at h
    obtain ⟨r, hr, rfl⟩ := Option.map_eq_some_iff.1 h
    have hl := Nn.chr_le s
    have hrest := ih c r hr
    have hfront : chars (esc (s.take (chr s).2)) = some (escC (chr s).1) := by
      rcases Nn.chr_bytes s hne c with ⟨k1, e, h128⟩ | ⟨k2, hb⟩
      · rw [k1]
        cases s with
        | nil => exact absurd rfl hne
        | cons b s =>
          have hb : (b :: s).getD 0 0 = b := rfl
          rw [hb] at e h128
          rw [e, List.take_succ_cons, List.take_zero]
          show chars (esc1 b ++ []) = _
          rw [List.append_nil]
          exact chars_esc1 b h128
      · have hhigh : ∀ b ∈ s.take (chr s).2, 128 ≤ b.toNat := fun b hbm => by
          obtain ⟨j, hj, rfl⟩ := List.getElem_of_mem hbm
          rw [List.length_take] at hj
          have := hb j (by omega)
          rw [List.getD_eq_getElem?_getD, List.getElem?_eq_getElem (by omega)] at this
          rw [List.getElem_take]
          exact this
        have hc : 128 ≤ (chr s).1 := by
          have hk := Nn.kb_any (c := (chr s).1) (k := (chr s).2) (Nn.chr_R s hne).symm c
          unfold Nn.Kb at hk
          omega
        rw [esc_high _ hhigh]
        have hsp : s.take (chr s).2 ++ s.drop (chr s).2 = s := List.take_append_drop _ _
        have hback := Nn.chr_back (a := s.take (chr s).2) (b := s.drop (chr s).2) (by rw [hsp]; exact c) (by rw [hsp, List.length_take]; omega)
        rw [hsp] at hback
        have hne2 : s.take (chr s).2 ≠ [] := fun e => by
          have := congrArg List.length e
          rw [List.length_take, List.length_nil] at this
          have := List.length_pos_iff.2 hne
          omega
        rw [Nn.chars_step _ hne2, hback, if_neg c, List.drop_eq_nil_of_le (by rw [List.length_take]; omega), Nn.chars_nil]
        unfold escC
        rw [if_neg (by omega)]
        rfl
    have he : esc s = esc (s.take (chr s).2) ++ esc (s.drop (chr s).2) := by rw [← esc_app, List.take_append_drop]
    rw [he, Nn.chars_app _ _ _ hfront, hrest]
    rfl
/-- such signs are just those characters -/
theorem signs_esc : ∀ (cs : List Nat) (n : Nat), (cs.flatMap escC).length ≤ n → signs n (cs.flatMap escC) = some (cs.map fun c => some (just c))
  | [], n, _ => by cases n <;> rfl
  | c :: cs, n, h => by
    rw [List.flatMap_cons] at h ⊢
    rw [List.length_append] at h
    unfold escC at h ⊢
    by_cases hs : c = 42 ∨ c = 63 ∨ c = 91 ∨ c = 92
    · rw [if_pos hs] at h ⊢
      simp only [List.length_cons, List.length_nil] at h
      obtain ⟨k, rfl⟩ : ∃ k, n = k + 1 := ⟨n - 1, by omega⟩
      have ih := signs_esc cs k (by unfold escC; omega)
      unfold escC at ih
      rw [List.cons_append, List.cons_append, List.nil_append, signs, if_neg (by omega), if_neg (by omega), if_neg (by omega), if_pos rfl, List.head?_cons, Option.bind_some, List.tail_cons, ih]
      rfl
    · rw [if_neg hs] at h ⊢
      simp only [List.length_cons, List.length_nil] at h
      obtain ⟨k, rfl⟩ : ∃ k, n = k + 1 := ⟨n - 1, by omega⟩
      have ih := signs_esc cs k (by unfold escC; omega)
      unfold escC at ih
      rw [List.cons_append, List.nil_append, signs, if_neg (by omega), if_neg (by omega), if_neg (by omega), if_neg (by omega), ih]
      rfl
theorem esc_head (s : List UInt8) : (esc s).head? ≠ some 42 := by
  cases s with
  | nil => simp [esc]
  | cons b s =>
    show (esc1 b ++ esc s).head? ≠ some 42
    unfold esc1
    by_cases h : spc b = true
    · rw [if_pos h]; simp
    · rw [if_neg h]
      simp only [List.singleton_append, List.head?_cons, ne_eq, Option.some.injEq]
      intro e
      rw [e] at h
      exact h rfl
/-- just that name -/
def justs (s : Name) : List (Option Tst) := ((chars s).getD []).map fun c => some (just c)
theorem part_esc {s : Name} (h : nm s = 0) : part (esc s) = some (some (justs s)) := by
  obtain ⟨h0, _⟩ := Nn.nm_ok h
  cases hc : chars s with
  | none => unfold Nn.nm at h; rw [hc] at h; simp at h
  | some cs =>
    have hcs : cs ≠ [] := fun e => h0 ((Nn.chars_empty s).1 (by rw [hc, e]))
    unfold part
    rw [if_neg (fun e => esc_head s (by rw [e]; rfl)), chars_esc s cs hc]
    dsimp only
    rw [signs_esc cs _ (Nat.le_refl _)]
    dsimp only
    rw [if_neg (by simpa using hcs), justs, hc]
    rfl
theorem parts_esc : ∀ (l : List Name), (∀ s ∈ l, nm s = 0) → parts (l.map esc) = some (l.map fun s => some (justs s))
  | [], _ => rfl
  | s :: l, h => by
    rw [List.map_cons, parts, part_esc (h s (List.mem_cons_self ..)), List.map_cons]
    dsimp only
    rw [parts_esc l fun t ht => h t (List.mem_cons_of_mem _ ht)]
    rfl
theorem esc_slash {s : Name} (h : (47 : UInt8) ∉ s) : (47 : UInt8) ∉ esc s := by
  unfold esc
  rw [List.mem_flatMap]
  rintro ⟨b, hb, hm⟩
  unfold esc1 at hm
  split at hm
  · simp only [List.mem_cons, List.not_mem_nil, or_false] at hm
    rcases hm with e | e
    · exact absurd e (by decide)
    · exact h (by rw [e]; exact hb)
  · rw [List.mem_singleton] at hm
    exact h (by rw [hm]; exact hb)
theorem esc_tails (l : List Name) : esc (tails l) = tails (l.map esc) := by
  unfold tails
  rw [List.flatMap_map]
  induction l with
  | nil => rfl
  | cons s l ih =>
    rw [List.flatMap_cons, List.flatMap_cons, esc_app, ih]
    rfl
/-- the pattern of just that path -/
theorem pat_esc {p : List UInt8} {l : List Name} (h : split p = (l, 0)) (hl : l ≠ []) (h60 : (esc p).length ≤ 60) : pat (esc p) = (l.map fun s => some (justs s), 0) := by
  have hj := Nn.join_ok (Nn.split_join h)
  have hpl : p = tails l := by rw [hj.2, joinB, if_neg hl]
  have hnm := Nn.errs_ok hj.1
  have hns : ∀ s ∈ l.map esc, (47 : UInt8) ∉ s := fun s hs => by
    obtain ⟨t, ht, rfl⟩ := List.mem_map.1 hs
    exact esc_slash (Nn.nm_ok (hnm t ht)).2.2.2
  have he : esc p = tails (l.map esc) := by rw [hpl, esc_tails]
  have hcut := Nn.cut_tails hns
  obtain ⟨s, r, rfl⟩ : ∃ s r, l = s :: r := by
    cases l with
    | nil => exact absurd rfl hl
    | cons s r => exact ⟨s, r, rfl⟩
  have hhd : (esc p).head? = some 47 := by rw [he]; rfl
  have hct : cut (esc p).tail = (s :: r).map esc := by
    have e1 := head_cons hhd
    have e2 : cut (esc p) = [] :: cut (esc p).tail := by
      conv => lhs; rw [e1]
      rw [Nn.cut, if_pos rfl]
    rw [he, hcut] at e2
    simp only [List.cons.injEq, true_and] at e2
    rw [he]
    exact e2.symm
  have hchars : ∃ x, chars p = some x := by
    rw [hpl]
    clear hct hhd hcut he hns hpl h60 hj h hl
    generalize s :: r = l at *
    induction l with
    | nil => exact ⟨[], rfl⟩
    | cons s l ih =>
      obtain ⟨x, hx⟩ := ih fun t ht => hnm t (List.mem_cons_of_mem _ ht)
      have hs := hnm s (List.mem_cons_self ..)
      cases hc : chars s with
      | none => unfold Nn.nm at hs; rw [hc] at hs; simp at hs
      | some cs =>
        have h1 := Nn.chars_app s (tails l) cs hc
        have h2 := Nn.chars_app [47] (s ++ tails l) [47] (chars_one 47 (by decide))
        rw [h1, hx] at h2
        exact ⟨_, h2⟩
  obtain ⟨x, hx⟩ := hchars
  exact pat_of h60 (chars_esc p x hx) hhd (by rw [hct]; exact parts_esc _ hnm)
theorem nameFit_just {s t : Name} (hs : nm s = 0) (ht : nm t = 0) : nameFit (justs s) t = true ↔ t = s := by
  have hx : ∀ {u : Name}, nm u = 0 → ∃ x, chars u = some x := fun {u} h => by
    cases hc : chars u with
    | none => unfold Nn.nm at h; rw [hc] at h; simp at h
    | some x => exact ⟨x, rfl⟩
  obtain ⟨x, hx1⟩ := hx hs
  obtain ⟨y, hy1⟩ := hx ht
  unfold nameFit justs
  rw [hx1, hy1]
  simp only [Option.getD_some]
  have e : (x.map fun c => some (just c)) = (x.map just).map some := by rw [List.map_map]; rfl
  rw [e, fit_ones]
  constructor
  · rintro ⟨h1, h2⟩
    rw [List.length_map] at h1
    have : y = x := List.ext_getElem h1.symm fun i g1 g2 => by
      have := h2 i (just x[i]) y[i] (by rw [List.getElem?_map, List.getElem?_eq_getElem g2]; rfl) (List.getElem?_eq_getElem g1)
      rw [one_just] at this
      exact of_decide_eq_true this
    rw [this] at hy1
    exact Nn.chars_inj t s x hy1 hx1
  · rintro rfl
    rw [hx1] at hy1
    cases hy1
    refine ⟨by simp, fun j b a g1 g2 => ?_⟩
    rw [List.getElem?_map, g2] at g1
    cases g1
    rw [one_just]
    exact decide_eq_true rfl
theorem fits_justs {l m : List Name} (hl : ∀ s ∈ l, nm s = 0) (hm : ∀ s ∈ m, nm s = 0) : fits (l.map fun s => some (justs s)) m = true ↔ m = l := by
  unfold fits
  have e : (l.map fun s => some (justs s)) = (l.map justs).map some := by rw [List.map_map]; rfl
  rw [e, fit_ones]
  constructor
  · rintro ⟨h1, h2⟩
    rw [List.length_map] at h1
    refine List.ext_getElem h1.symm fun i g1 g2 => ?_
    have := h2 i (justs l[i]) m[i] (by rw [List.getElem?_map, List.getElem?_eq_getElem g2]; rfl) (List.getElem?_eq_getElem g1)
    exact (nameFit_just (hl _ (List.getElem_mem g2)) (hm _ (List.getElem_mem g1))).1 this
  · rintro rfl
    refine ⟨by simp, fun j b a g1 g2 => ?_⟩
    rw [List.getElem?_map, g2] at g1
    cases g1
    have ha : a ∈ m := List.mem_of_getElem? g2
    exact (nameFit_just (hl _ ha) (hm _ ha)).2 rfl
/-- such a pattern matches its path, and no other one -/
theorem mtch_esc {p q : List UInt8} (hp : (split p).2 = 0) (hl : (split p).1 ≠ []) (h60 : (esc p).length ≤ 60) (hq : (split q).2 = 0) : mtch (esc p) q = (decide (q = p), 0) := by
  have ep : split p = ((split p).1, 0) := Prod.ext rfl hp
  have eq : split q = ((split q).1, 0) := Prod.ext rfl hq
  have hpat := pat_esc ep hl h60
  unfold mtch
  rw [hpat]
  dsimp only
  rw [if_neg (by simp), if_neg (by simpa using hq)]
  have hn1 := Nn.errs_ok (errs_of_split ep)
  have hn2 := Nn.errs_ok (errs_of_split eq)
  have hf := fits_justs hn1 hn2
  refine Prod.ext ?_ rfl
  show fits _ _ = decide (q = p)
  rw [Bool.eq_iff_iff, hf, decide_eq_true_iff]
  constructor
  · intro e
    rw [e] at eq
    exact Nn.split_inj eq ep
  · rintro rfl
    rfl
end Gb
end Go.Proofs.YtfcnlfblfennaaaDoor
