/-
  P37 to P39 (no Go in it): names and their path, what is clean, what comes ahead of what.
-/
import Derived.Test.YtfcnlfblfennaaaDoorNnChr
namespace Go.Proofs.YtfcnlfblfennaaaDoor
namespace Nn

abbrev Name := List UInt8
/-- cut at each slash -/
def cut : List UInt8 → List Name
  | [] => [[]]
  | b :: l => if b = 47 then [] :: cut l else (b :: (cut l).headD []) :: (cut l).tail
theorem cut_ne (l : List UInt8) : cut l ≠ [] := by
  cases l with
  | nil => simp [cut]
  | cons b l => rw [cut]; split <;> simp
theorem cut_slash (a b : List UInt8) : cut (a ++ 47 :: b) = cut a ++ cut b := by
  induction a with
  | nil => simp [cut]
  | cons c a ih =>
    rw [List.cons_append, cut, cut, ih]
    by_cases h : c = 47
    · rw [if_pos h, if_pos h, List.cons_append]
    · rw [if_neg h, if_neg h]
      obtain ⟨x, r, e⟩ : ∃ x r, cut a = x :: r := by
        cases q : cut a with
        | nil => exact absurd q (cut_ne a)
        | cons x r => exact ⟨x, r, rfl⟩
      rw [e]
      rfl
theorem cut_plain {a : List UInt8} (h : (47 : UInt8) ∉ a) : cut a = [a] := by
  induction a with
  | nil => rfl
  | cons c a ih =>
    have h1 : c ≠ 47 := fun e => h (by rw [e]; exact List.mem_cons_self)
    rw [cut, if_neg h1, ih fun q => h (List.mem_cons_of_mem _ q)]
    rfl
/-- the names behind their slashes -/
def tails (l : List Name) : List UInt8 := l.flatMap (47 :: ·)
theorem tails_cut : ∀ (p : List UInt8), tails (cut p) = 47 :: p
  | [] => rfl
  | b :: l => by
    have ih := tails_cut l
    rw [cut]
    by_cases h : b = 47
    · rw [if_pos h, tails, List.flatMap_cons, ← tails, ih, h]; rfl
    · rw [if_neg h]
      obtain ⟨x, r, e⟩ : ∃ x r, cut l = x :: r := by
        cases q : cut l with
        | nil => exact absurd q (cut_ne l)
        | cons x r => exact ⟨x, r, rfl⟩
      rw [e] at ih ⊢
      rw [tails, List.flatMap_cons, ← tails] at ih ⊢
      have : x ++ tails r = l := by simpa using ih
      rw [← this]
      rfl
theorem cut_tails {l : List Name} (h : ∀ s ∈ l, (47 : UInt8) ∉ s) : cut (tails l) = [] :: l := by
  induction l with
  | nil => rfl
  | cons s l ih =>
    have h1 := h s List.mem_cons_self
    have h2 := ih fun x hx => h x (List.mem_cons_of_mem _ hx)
    cases l with
    | nil =>
      show cut (47 :: (s ++ [])) = _
      rw [List.append_nil, cut, if_pos rfl, cut_plain h1]
    | cons t l =>
      have e : tails (s :: t :: l) = 47 :: (s ++ tails (t :: l)) := rfl
      have e2 : tails (t :: l) = 47 :: (t ++ tails l) := rfl
      rw [e, e2, cut, if_pos rfl, cut_slash, cut_plain h1]
      rw [e2, cut, if_pos rfl] at h2
      rw [(List.cons.inj h2).2]
      rfl
/-- the first error of names, behind i others -/
def errsF : Nat → List Name → Int
  | _, [] => 0
  | i, s :: l => if 8 ≤ i then 14 else if nm s ≠ 0 then nm s else errsF (i + 1) l
def errs (l : List Name) : Int := errsF 0 l
theorem errsF_ok : ∀ (l : List Name) (i : Nat), errsF i l = 0 → ∀ s ∈ l, nm s = 0
  | [], _, _, s, h => by simp at h
  | t :: l, i, h, s, hs => by
    rw [errsF] at h
    split at h
    · simp at h
    · split at h
      · rename_i q; exact absurd h q
      · rename_i q
        rcases List.mem_cons.1 hs with e | e
        · rw [e]; simpa using q
        · exact errsF_ok l (i + 1) h s e
theorem errs_ok {l : List Name} (h : errs l = 0) : ∀ s ∈ l, nm s = 0 := errsF_ok l 0 h
/-- P37 -/
def joinB (l : List Name) : List UInt8 := if l = [] then [47] else tails l
def join (l : List Name) : List UInt8 × Int := if errs l ≠ 0 then ([], errs l) else (joinB l, 0)
def split (p : List UInt8) : List Name × Int :=
  if p.head? ≠ some 47 then ([], 8) else if p = [47] then ([], 0) else if errs (cut p.tail) ≠ 0 then ([], errs (cut p.tail)) else (cut p.tail, 0)
theorem split_join {p : List UInt8} {m : List Name} (h : split p = (m, 0)) : join m = (p, 0) := by
  unfold split at h
  split at h
  · cases h
  rename_i q
  simp only [ne_eq, Classical.not_not] at q
  split at h
  · rename_i e
    obtain ⟨rfl, _⟩ := Prod.mk.inj h
    rw [e]; rfl
  rename_i e
  split at h
  · rename_i f
    obtain ⟨_, h2⟩ := Prod.mk.inj h
    exact absurd h2 f
  rename_i f
  obtain ⟨rfl, _⟩ := Prod.mk.inj h
  have f' : errs (cut p.tail) = 0 := by simpa using f
  unfold join
  rw [if_neg (by rw [f']; simp), joinB, if_neg (cut_ne _), tails_cut]
  congr 1
  cases p with
  | nil => simp at q
  | cons b r =>
    obtain rfl : b = 47 := by simpa using q
    rfl
theorem noslash {l : List Name} (h : errs l = 0) : ∀ s ∈ l, (47 : UInt8) ∉ s := fun s hs => (nm_ok (errs_ok h s hs)).2.2.2
theorem join_ok {l : List Name} {q : List UInt8} (h : join l = (q, 0)) : errs l = 0 ∧ q = joinB l := by
  unfold join at h
  split at h
  · rename_i e
    obtain ⟨_, h2⟩ := Prod.mk.inj h
    exact absurd h2 e
  · rename_i e
    exact ⟨by simpa using e, (Prod.mk.inj h).1.symm⟩
theorem join_bad {l : List Name} {q : List UInt8} {e : Int} (h : join l = (q, e)) (he : e ≠ 0) : q = [] := by
  unfold join at h
  split at h
  · exact (Prod.mk.inj h).1.symm
  · exact absurd (Prod.mk.inj h).2.symm he
theorem join_split {l : List Name} {q : List UInt8} (h : join l = (q, 0)) : split q = (l, 0) := by
  obtain ⟨he, rfl⟩ := join_ok h
  cases l with
  | nil => rfl
  | cons s l =>
    have hc : cut (joinB (s :: l)) = [] :: s :: l := by
      rw [joinB, if_neg (by simp)]
      exact cut_tails (noslash he)
    have e : joinB (s :: l) = 47 :: (s ++ tails l) := by rw [joinB, if_neg (by simp)]; rfl
    rw [e, cut, if_pos rfl] at hc
    have hs := (nm_ok (errs_ok he s List.mem_cons_self)).1
    unfold split
    rw [e, if_neg (by simp), if_neg (by intro q; have := (List.cons.inj q).2; exact hs (List.append_eq_nil_iff.1 this).1), List.tail_cons, (List.cons.inj hc).2, if_neg (by rw [he]; simp)]
/-- two paths of the same names are one -/
theorem split_inj {p q : List UInt8} {m : List Name} (h : split p = (m, 0)) (k : split q = (m, 0)) : p = q := by
  have := (split_join h).symm.trans (split_join k)
  exact (Prod.mk.inj this).1

/-- P38: what is kept -/
def stk : List Name → List Name → Option (List Name)
  | st, [] => some st
  | st, s :: r => if s = [46, 46] then (if st = [] then none else stk st.dropLast r) else if s = [] ∨ s = [46] then stk st r else stk (st ++ [s]) r
def clean (p : List UInt8) : List UInt8 × Int :=
  match stk [] (cut p) with
  | none => ([], 8)
  | some l => join l
theorem stk_app : ∀ (r r' st : List Name), stk st (r ++ r') = (stk st r).bind fun st' => stk st' r'
  | [], r', st => rfl
  | s :: r, r', st => by
    rw [List.cons_append, stk, stk]
    by_cases h : s = [46, 46]
    · rw [if_pos h, if_pos h]
      by_cases q : st = []
      · rw [if_pos q, if_pos q]; rfl
      · rw [if_neg q, if_neg q]; exact stk_app r r' _
    · rw [if_neg h, if_neg h]
      by_cases q : s = [] ∨ s = [46]
      · rw [if_pos q, if_pos q]; exact stk_app r r' st
      · rw [if_neg q, if_neg q]; exact stk_app r r' _
theorem stk_names : ∀ (l st : List Name), (∀ s ∈ l, nm s = 0) → stk st l = some (st ++ l)
  | [], st, _ => by simp [stk]
  | s :: l, st, h => by
    obtain ⟨h1, h2, h3, _⟩ := nm_ok (h s List.mem_cons_self)
    rw [stk, if_neg h3, if_neg (by simp [h1, h2]), stk_names l _ fun x hx => h x (List.mem_cons_of_mem _ hx), List.append_assoc]
    rfl
theorem clean_ok {p q : List UInt8} (h : clean p = (q, 0)) : ∃ l, stk [] (cut p) = some l ∧ errs l = 0 ∧ q = joinB l := by
  unfold clean at h
  cases hs : stk [] (cut p) with
  | none => rw [hs] at h; cases h
  | some l =>
    rw [hs] at h
    obtain ⟨h1, h2⟩ := join_ok h
    exact ⟨l, rfl, h1, h2⟩
theorem clean_bad {p q : List UInt8} {e : Int} (h : clean p = (q, e)) (he : e ≠ 0) : q = [] := by
  unfold clean at h
  split at h
  · exact (Prod.mk.inj h).1.symm
  · exact join_bad h he
theorem clean_of {p : List UInt8} {l : List Name} (hs : stk [] (cut p) = some l) (he : errs l = 0) : clean p = (joinB l, 0) := by
  unfold clean
  rw [hs]
  show join l = _
  unfold join
  rw [if_neg (by rw [he]; simp)]
/-- what is clean stays so -/
theorem clean_again {p q : List UInt8} (h : clean p = (q, 0)) : clean q = (q, 0) := by
  obtain ⟨l, _, he, rfl⟩ := clean_ok h
  refine clean_of ?_ he
  cases l with
  | nil => rfl
  | cons s l =>
    rw [joinB, if_neg (by simp), cut_tails (noslash he)]
    show stk [] ([[]] ++ (s :: l)) = _
    rw [stk_app]
    show stk [] (s :: l) = _
    rw [stk_names _ _ (errs_ok he)]
    rfl
/-- a dot, a slash more -/
theorem clean_dots {p q : List UInt8} (hp : p.head? = some 47) (h : clean p = (q, 0)) : clean ([47, 46] ++ p ++ [47, 47, 46]) = (q, 0) := by
  obtain ⟨l, hs, he, rfl⟩ := clean_ok h
  refine clean_of ?_ he
  obtain ⟨r, rfl⟩ : ∃ r, p = 47 :: r := by
    cases p with
    | nil => simp at hp
    | cons b r => obtain rfl : b = 47 := by simpa using hp
                  exact ⟨r, rfl⟩
  have e : [47, 46] ++ 47 :: r ++ [47, 47, 46] = [] ++ 47 :: ([46] ++ 47 :: (r ++ 47 :: ([] ++ 47 :: [46]))) := by simp
  rw [e, cut_slash, cut_slash, cut_slash, cut_slash, cut_plain (a := []) (by simp), cut_plain (a := [46]) (by decide)]
  have hs' : stk [] ([[]] ++ cut r) = some l := by
    rw [show 47 :: r = [] ++ 47 :: r from rfl, cut_slash] at hs
    exact hs
  rw [stk_app] at hs' ⊢
  have hs2 : stk [] (cut r) = some l := hs'
  show ((stk [] [[]]).bind fun st' => stk st' ([[46]] ++ (cut r ++ ([[]] ++ [[46]])))) = _
  show stk [] ([[46]] ++ (cut r ++ ([[]] ++ [[46]]))) = _
  rw [stk_app]
  show stk [] (cut r ++ ([[]] ++ [[46]])) = _
  rw [stk_app, hs2]
  rfl
/-- a name that is taken back -/
theorem clean_back {p q s : List UInt8} (hn : nm s = 0) (h : clean p = (q, 0)) : clean (p ++ [47] ++ s ++ [47, 46, 46]) = (q, 0) := by
  obtain ⟨l, hs, he, rfl⟩ := clean_ok h
  refine clean_of ?_ he
  obtain ⟨h1, h2, h3, h4⟩ := nm_ok hn
  have e : p ++ [47] ++ s ++ [47, 46, 46] = p ++ 47 :: (s ++ 47 :: [46, 46]) := by simp
  rw [e, cut_slash, cut_slash, cut_plain h4, cut_plain (a := [46, 46]) (by decide), stk_app, hs]
  show stk l ([s] ++ [[46, 46]]) = _
  show stk l (s :: [[46, 46]]) = _
  rw [stk, if_neg h3, if_neg (by simp [h1, h2]), stk, if_pos rfl, if_neg (by simp), List.dropLast_concat]
  rfl
end Nn
end Go.Proofs.YtfcnlfblfennaaaDoor
