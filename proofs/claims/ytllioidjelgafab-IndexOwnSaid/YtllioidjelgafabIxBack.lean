/-
  P31 to P33 (no Go in it): what Check, Find, Merge, Of, Text and Read of an index say, and that an index is read as it was written, and what is read is written as just those bytes.
-/
import Derived.Test.YtllioidjelgafabIxMath
import Derived.Test.YtllioidjelgafabMathBack
import Derived.Test.YtllioidjelgafabMathOne
namespace Go.Proofs.Ytllioidjelgafab
namespace Ix

/-- what is wrong with a place -/
def plErr (p : Pl) : Int :=
  if ¬ (p.kind = 1 ∨ p.kind = 2 ∨ p.kind = 3) then 5 else
  if p.pack < 0 ∨ 1099511627776 < p.pack ∨ p.at_ < 0 ∨ 1099511627776 < p.at_ ∨ p.len < 0 ∨ 1099511627776 < p.len then 1 else 0
theorem plErr_ok {p : Pl} (h : plErr p = 0) : (p.kind = 1 ∨ p.kind = 2 ∨ p.kind = 3) ∧ 0 ≤ p.pack ∧ p.pack ≤ 1099511627776 ∧ 0 ≤ p.at_ ∧ p.at_ ≤ 1099511627776 ∧ 0 ≤ p.len ∧ p.len ≤ 1099511627776 := by
  unfold plErr at h
  split at h
  · exact absurd h (by decide)
  · rename_i hk
    split at h
    · exact absurd h (by decide)
    · exact ⟨Decidable.not_not.mp hk, by omega, by omega, by omega, by omega, by omega, by omega⟩
/-- what is wrong with places behind one of that digest -/
def ckB : Option Bs → List Pl → Int
  | _, [] => 0
  | none, p :: r => if plErr p ≠ 0 then plErr p else ckB (some p.id) r
  | some b, p :: r => if plErr p ≠ 0 then plErr p else if Nm.val p.id ≤ Nm.val b then 4 else ckB (some p.id) r
/-- what Check says -/
def check (x : List Pl) : Int := if 400 < x.length then 2 else ckB none x
theorem ckB_some {x : List Pl} : ∀ {b : Bs}, ckB (some b) x = 0 ↔ (∀ p ∈ x, plErr p = 0 ∧ Nm.val b < ky p) ∧ Up x := by
  induction x with
  | nil => intro b; exact ⟨fun _ => ⟨fun _ hp => absurd hp List.not_mem_nil, Up.nil⟩, fun _ => rfl⟩
  | cons p x ih =>
    intro b
    rw [ckB]
    constructor
    · intro h
      split at h
      · rename_i hn; exact absurd h hn
      · rename_i h0
        split at h
        · exact absurd h (by decide)
        · rename_i hlt
          obtain ⟨h1, h2⟩ := ih.mp h
          refine ⟨fun q hq => ?_, Up.cons (fun q hq => (h1 q hq).2) h2⟩
          rcases List.mem_cons.mp hq with rfl | a
          · exact ⟨Decidable.not_not.mp h0, Nat.lt_of_not_le hlt⟩
          · exact ⟨(h1 q a).1, Nat.lt_trans (Nat.lt_of_not_le hlt) (h1 q a).2⟩
    · rintro ⟨h1, h2⟩
      obtain ⟨a, c⟩ := h1 p List.mem_cons_self
      rw [if_neg (fun k => k a), if_neg (Nat.not_le_of_lt c)]
      exact ih.mpr ⟨fun q hq => ⟨(h1 q (List.mem_cons_of_mem _ hq)).1, h2.head q hq⟩, h2.tail⟩
theorem ckB_none {x : List Pl} : ckB none x = 0 ↔ (∀ p ∈ x, plErr p = 0) ∧ Up x := by
  cases x with
  | nil => exact ⟨fun _ => ⟨fun _ hp => absurd hp List.not_mem_nil, Up.nil⟩, fun _ => rfl⟩
  | cons p x =>
    rw [ckB]
    constructor
    · intro h
      split at h
      · rename_i hn; exact absurd h hn
      · rename_i h0
        obtain ⟨h1, h2⟩ := ckB_some.mp h
        refine ⟨fun q hq => ?_, Up.cons (fun q hq => (h1 q hq).2) h2⟩
        rcases List.mem_cons.mp hq with rfl | a
        · exact Decidable.not_not.mp h0
        · exact (h1 q a).1
    · rintro ⟨h1, h2⟩
      rw [if_neg (fun k => k (h1 p List.mem_cons_self))]
      exact ckB_some.mpr ⟨fun q hq => ⟨h1 q (List.mem_cons_of_mem _ hq), h2.head q hq⟩, h2.tail⟩
theorem check_ok {x : List Pl} : check x = 0 ↔ x.length ≤ 400 ∧ (∀ p ∈ x, plErr p = 0) ∧ Up x := by
  unfold check
  split
  · exact ⟨fun h => absurd h (by decide), fun h => by omega⟩
  · rw [ckB_none]
    exact ⟨fun h => ⟨by omega, h⟩, fun h => h.2⟩
theorem plErr_pos {p : Pl} (h : plErr p ≠ 0) : plErr p = 5 ∨ plErr p = 1 := by
  unfold plErr at h ⊢
  split
  · exact .inl rfl
  · split
    · exact .inr rfl
    · rename_i a b; rw [if_neg a, if_neg b] at h; exact absurd rfl h

/-- what Find says -/
def find (x : List Pl) (id : Bs) : Option Pl := x.find? fun p => p.id == id
theorem find_of {x : List Pl} (h : Up x) {p : Pl} (hp : p ∈ x) : find x p.id = some p := by
  unfold find
  induction x with
  | nil => exact absurd hp List.not_mem_nil
  | cons q x ih =>
    rw [List.find?_cons]
    by_cases e : q.id = p.id
    · rw [e, beq_self_eq_true]
      rw [h.same List.mem_cons_self hp (by rw [ky, ky, e])]
    · rw [show (q.id == p.id) = false from beq_eq_false_iff_ne.mpr e]
      rcases List.mem_cons.mp hp with rfl | a
      · exact absurd rfl e
      · exact ih h.tail a
theorem find_some {x : List Pl} {id : Bs} {p : Pl} (h : find x id = some p) : p ∈ x ∧ p.id = id :=
  ⟨List.mem_of_find?_eq_some h, by have := List.find?_some h; exact beq_iff_eq.mp this⟩
theorem find_none {x : List Pl} {id : Bs} (h : find x id = none) : ∀ p ∈ x, p.id ≠ id :=
  fun p hp e => List.find?_eq_none.mp h p hp (beq_iff_eq.mpr e)

/-- what Merge says -/
def merge (a b : List Pl) : List Pl × Int :=
  if check a ≠ 0 then ([], check a) else if check b ≠ 0 then ([], check b) else
  if 400 < (puts a b).length then ([], 2) else (puts a b, 0)
/-- an index of places that are right, right itself -/
theorem Is.check {l x : List Pl} (h : Is l x) (hl : ∀ p ∈ l, plErr p = 0) (hn : x.length ≤ 400) : check x = 0 :=
  check_ok.mpr ⟨hn, fun p hp => hl p (h.least p hp).1, h.up⟩
theorem puts_is {a b : List Pl} (ha : Up a) (hi : Ids (a ++ b)) : Is (a ++ b) (puts a b) := (Is.self ha).puts b hi
theorem puts_self {a : List Pl} (ha : Up a) (hi : Ids a) : puts a a = a :=
  ((puts_is ha (hi.append hi)).congr fun p => by rw [List.mem_append, or_self]).once (Is.self ha)
theorem puts_comm {a b : List Pl} (ha : Up a) (hb : Up b) (ia : Ids a) (ib : Ids b) : puts a b = puts b a :=
  (puts_is ha (ia.append ib)).once ((puts_is hb (ib.append ia)).congr fun p => by rw [List.mem_append, List.mem_append, or_comm])
theorem puts_assoc {a b c : List Pl} (ha : Up a) (hb : Up b) (hc : Up c) (ia : Ids a) (ib : Ids b) (ic : Ids c) : puts (puts a b) c = puts a (puts b c) := by
  have h1 := puts_is ha (ia.append ib)
  have h2 := puts_is hb (ib.append ic)
  have i1 := h1.ids (ia.append ib)
  have i2 := h2.ids (ib.append ic)
  refine Is.once (l := a ++ b ++ c) (h1.join (Is.self hc) (puts_is h1.up (i1.append ic))) ?_
  rw [List.append_assoc]
  exact (Is.self ha).join h2 (puts_is ha (ia.append i2))
/-- what Of says of the places of a list's rows -/
def ofErr : List Pl → Int
  | [] => 0
  | p :: r => if plErr p ≠ 0 then plErr p else ofErr r
theorem ofErr_ok {l : List Pl} : ofErr l = 0 ↔ ∀ p ∈ l, plErr p = 0 := by
  induction l with
  | nil => exact ⟨fun _ _ hp => absurd hp List.not_mem_nil, fun _ => rfl⟩
  | cons p l ih =>
    rw [ofErr]
    constructor
    · intro h
      split at h
      · rename_i hn; exact absurd h hn
      · rename_i h0
        intro q hq
        rcases List.mem_cons.mp hq with rfl | a
        · exact Decidable.not_not.mp h0
        · exact ih.mp h q a
    · intro h
      rw [if_neg (fun k => k (h p List.mem_cons_self))]
      exact ih.mpr fun q hq => h q (List.mem_cons_of_mem _ hq)
def of (n : Int) (l : List Pl) : List Pl × Int :=
  if n < 0 ∨ 1099511627776 < n then ([], 1) else if 400 < l.length then ([], 2) else if ofErr l ≠ 0 then ([], ofErr l) else (puts [] l, 0)
theorem puts_nil_is {l : List Pl} (hi : Ids l) : Is l (puts [] l) := Is.nil.puts l hi
/-- in any order -/
theorem puts_mem {l m : List Pl} (hl : Ids l) (hm : Ids m) (h : ∀ p, p ∈ l ↔ p ∈ m) : puts [] l = puts [] m :=
  ((puts_nil_is hl).congr h).once (puts_nil_is hm)
/-- two lists: what the merge of both is -/
theorem puts_two {l m : List Pl} (hl : Ids l) (hm : Ids m) : puts [] (l ++ m) = puts (puts [] l) (puts [] m) := by
  have h1 := puts_nil_is hl
  have h2 := puts_nil_is hm
  exact (puts_nil_is (hl.append hm)).once (h1.join h2 (puts_is h1.up ((h1.ids hl).append (h2.ids hm))))

/-- a place as bytes -/
def rowT (p : Pl) : Bs := p.id ++ (UInt8.ofNat p.kind.toNat :: (Nm.put p.pack.toNat ++ (Nm.put p.at_.toNat ++ Nm.put p.len.toNat)))
def rowsT (x : List Pl) : Bs := (x.map rowT).flatten
/-- what Text says of a right index -/
def textB (x : List Pl) : Bs := Nm.put x.length ++ rowsT x
/-- a number that may not be above 2^40 -/
def num (s : Bs) : Nat × Bs × Int :=
  let g := Nm.getN s
  if g.2.2 ≠ 0 then (0, [], g.2.2) else if 1099511627776 < g.1 then (0, [], 2) else (g.1, s.drop g.2.1, 0)
/-- one place, and what is behind it -/
def rdOne (s : Bs) : Pl × Bs × Int :=
  if s.length < 9 then (⟨[], 0, 0, 0, 0⟩, [], 3) else
  let a := num (s.drop 9)
  if a.2.2 ≠ 0 then (⟨[], 0, 0, 0, 0⟩, [], a.2.2) else
  let b := num a.2.1
  if b.2.2 ≠ 0 then (⟨[], 0, 0, 0, 0⟩, [], b.2.2) else
  let c := num b.2.1
  if c.2.2 ≠ 0 then (⟨[], 0, 0, 0, 0⟩, [], c.2.2) else
  (⟨s.take 8, (s.getD 8 0).toNat, a.1, b.1, c.1⟩, c.2.1, 0)
/-- so many places -/
def rdAll : Nat → Bs → List Pl → List Pl × Int
  | 0, s, out => if s ≠ [] then ([], 4) else if check out ≠ 0 then ([], check out) else (out, 0)
  | m + 1, s, out => let r := rdOne s; if r.2.2 ≠ 0 then ([], r.2.2) else rdAll m r.2.1 (out ++ [r.1])
/-- what Read says -/
def read (s : Bs) : List Pl × Int :=
  let g := Nm.getN s
  if g.2.2 ≠ 0 then ([], g.2.2) else if 400 < g.1 then ([], 2) else rdAll g.1 (s.drop g.2.1) []

theorem num_put {n : Nat} (h : n ≤ 1099511627776) (m : Bs) : num (Nm.put n ++ m) = (n, m, 0) := by
  unfold num
  rw [Nm.get_put n m (by omega)]
  simp only [ne_eq, not_true, if_false, List.drop_left]
  rw [if_neg (by omega)]
theorem num_one {s : Bs} {n : Nat} {r : Bs} (h : num s = (n, r, 0)) : n ≤ 1099511627776 ∧ Nm.put n ++ r = s := by
  unfold num at h
  rcases hg : Nm.getN s with ⟨a, k, e⟩
  rw [hg] at h
  simp only at h
  split at h
  · rename_i hn; exact absurd (congrArg (fun q => q.2.2) h) hn
  · rename_i h0
    split at h
    · exact absurd (congrArg (fun q => q.2.2) h) (by simp)
    · obtain rfl : a = n := congrArg (fun q => q.1) h
      obtain rfl : s.drop k = r := congrArg (fun q => q.2.1) h
      obtain ⟨_, _, e1⟩ := Nm.get_one (hg.trans (by rw [Decidable.not_not.mp h0]))
      exact ⟨by omega, by rw [e1, List.take_append_drop]⟩
theorem rdOne_row {p : Pl} (hi : p.id.length = 8) (h : plErr p = 0) (m : Bs) : rdOne (rowT p ++ m) = (p, m, 0) := by
  obtain ⟨hk, p0, p1, a0, a1, l0, l1⟩ := plErr_ok h
  unfold rdOne rowT
  rw [if_neg (by rw [List.length_append, List.length_append, List.length_cons]; omega)]
  have e9 : (p.id ++ (UInt8.ofNat p.kind.toNat :: (Nm.put p.pack.toNat ++ (Nm.put p.at_.toNat ++ Nm.put p.len.toNat))) ++ m).drop 9 = Nm.put p.pack.toNat ++ (Nm.put p.at_.toNat ++ (Nm.put p.len.toNat ++ m)) := by
    rw [List.append_assoc, List.drop_append, List.drop_of_length_le (by omega), List.nil_append, hi]
    simp [List.append_assoc]
  have e8 : (p.id ++ (UInt8.ofNat p.kind.toNat :: (Nm.put p.pack.toNat ++ (Nm.put p.at_.toNat ++ Nm.put p.len.toNat))) ++ m).take 8 = p.id := by
    rw [List.append_assoc, ← hi, List.take_left]
  have ek : (p.id ++ (UInt8.ofNat p.kind.toNat :: (Nm.put p.pack.toNat ++ (Nm.put p.at_.toNat ++ Nm.put p.len.toNat))) ++ m).getD 8 0 = UInt8.ofNat p.kind.toNat := by
    rw [List.append_assoc, List.getD_eq_getElem?_getD, List.getElem?_append_right (by omega), hi]
    rfl
  rw [e9, e8, ek]
  simp only [num_put (show p.pack.toNat ≤ 1099511627776 by omega), num_put (show p.at_.toNat ≤ 1099511627776 by omega), num_put (show p.len.toNat ≤ 1099511627776 by omega), ne_eq, not_true, if_false]
  have kb : ((UInt8.ofNat p.kind.toNat).toNat : Int) = p.kind := by
    rcases hk with e | e | e <;> rw [e] <;> rfl
  rw [kb, Int.toNat_of_nonneg p0, Int.toNat_of_nonneg a0, Int.toNat_of_nonneg l0]
theorem rdOne_one {s r : Bs} {p : Pl} (h : rdOne s = (p, r, 0)) : p.id.length = 8 ∧ (p.kind = 1 ∨ p.kind = 2 ∨ p.kind = 3 → plErr p = 0) ∧ rowT p ++ r = s := by
  unfold rdOne at h
  split at h
  · exact absurd (congrArg (fun q => q.2.2) h) (by simp)
  · rename_i h9
    rcases ha : num (s.drop 9) with ⟨a, s1, e1⟩
    rw [ha] at h
    simp only at h
    split at h
    · rename_i hn; exact absurd (congrArg (fun q => q.2.2) h) hn
    · rename_i h1
      rcases hb : num s1 with ⟨b, s2, e2⟩
      rw [hb] at h
      simp only at h
      split at h
      · rename_i hn; exact absurd (congrArg (fun q => q.2.2) h) hn
      · rename_i h2
        rcases hc : num s2 with ⟨c, s3, e3⟩
        rw [hc] at h
        simp only at h
        split at h
        · rename_i hn; exact absurd (congrArg (fun q => q.2.2) h) hn
        · rename_i h3
          obtain ⟨la, ea⟩ := num_one (ha.trans (by rw [Decidable.not_not.mp h1]))
          obtain ⟨lb, eb⟩ := num_one (hb.trans (by rw [Decidable.not_not.mp h2]))
          obtain ⟨lc, ec⟩ := num_one (hc.trans (by rw [Decidable.not_not.mp h3]))
          obtain rfl : s3 = r := congrArg (fun q => q.2.1) h
          have hp : (⟨s.take 8, (s.getD 8 0).toNat, a, b, c⟩ : Pl) = p := congrArg (fun q => q.1) h
          subst hp
          refine ⟨by rw [List.length_take]; omega, fun hk => ?_, ?_⟩
          · unfold plErr
            rw [if_neg (fun k => k hk), if_neg (by simp only; omega)]
          · have e0 : s.take 8 ++ (s.getD 8 0 :: s.drop 9) = s := by
              have : s.getD 8 0 :: s.drop 9 = s.drop 8 := by
                rw [List.drop_eq_getElem_cons (i := 8) (by omega), List.getD_eq_getElem?_getD, List.getElem?_eq_getElem (by omega), Option.getD_some]
              rw [this, List.take_append_drop]
            unfold rowT
            simp only [Int.toNat_natCast, UInt8.ofNat_toNat, List.append_assoc, List.cons_append]
            rw [ec, eb, ea]
            exact e0
theorem rdAll_rows {x : List Pl} : ∀ {out : List Pl}, Ids x → check (out ++ x) = 0 → rdAll x.length (rowsT x) out = (out ++ x, 0) := by
  induction x with
  | nil =>
    intro out _ h
    rw [List.append_nil] at h ⊢
    rw [List.length_nil, rdAll, if_neg (fun k => k rfl), if_neg (fun k => k h)]
  | cons p x ih =>
    intro out hi h
    have hp : plErr p = 0 := (check_ok.mp h).2.1 p (List.mem_append_right _ List.mem_cons_self)
    have e : rowsT (p :: x) = rowT p ++ rowsT x := rfl
    rw [List.length_cons, rdAll, e, rdOne_row (hi p List.mem_cons_self) hp]
    simp only [ne_eq, not_true, if_false]
    have e2 : out ++ p :: x = (out ++ [p]) ++ x := by rw [List.append_assoc]; rfl
    rw [e2] at h ⊢
    exact ih (fun q hq => hi q (List.mem_cons_of_mem _ hq)) h
/-- an index is read as it was written -/
theorem read_text {x : List Pl} (hi : Ids x) (h : check x = 0) : read (textB x) = (x, 0) := by
  unfold read textB
  have hl := (check_ok.mp h).1
  rw [Nm.get_put _ _ (by omega)]
  simp only [ne_eq, not_true, if_false, List.drop_left]
  rw [if_neg (by omega)]
  exact rdAll_rows hi h
theorem rdAll_one : ∀ {m : Nat} {s : Bs} {out x : List Pl}, Ids out → rdAll m s out = (x, 0) → ∃ y, x = out ++ y ∧ y.length = m ∧ rowsT y = s ∧ Ids x ∧ check x = 0
  | 0, s, out, x, hi, h => by
    rw [rdAll] at h
    split at h
    · exact absurd (congrArg (fun q => q.2) h) (by simp)
    · rename_i hs
      split at h
      · rename_i hn; exact absurd (congrArg (fun q => q.2) h) hn
      · rename_i hc
        obtain rfl : out = x := congrArg (fun q => q.1) h
        exact ⟨[], by rw [List.append_nil], rfl, by rw [Decidable.not_not.mp hs]; rfl, hi, Decidable.not_not.mp hc⟩
  | m + 1, s, out, x, hi, h => by
    rw [rdAll] at h
    rcases hr : rdOne s with ⟨p, r, e⟩
    rw [hr] at h
    simp only at h
    split at h
    · rename_i hn; exact absurd (congrArg (fun q => q.2) h) hn
    · rename_i h0
      obtain ⟨h8, _, es⟩ := rdOne_one (hr.trans (by rw [Decidable.not_not.mp h0]))
      obtain ⟨y, e1, e2, e3, e4⟩ := rdAll_one (hi.append fun q hq => by rw [List.mem_singleton.mp hq]; exact h8) h
      refine ⟨p :: y, by rw [e1, List.append_assoc]; rfl, by rw [List.length_cons, e2], ?_, e4⟩
      rw [← es, ← e3]
      rfl
/-- what is read is written as just those bytes -/
theorem text_read {s : Bs} {x : List Pl} (h : read s = (x, 0)) : Ids x ∧ check x = 0 ∧ textB x = s := by
  unfold read at h
  rcases hg : Nm.getN s with ⟨n, k, e⟩
  rw [hg] at h
  simp only at h
  split at h
  · rename_i hn; exact absurd (congrArg (fun q => q.2) h) hn
  · rename_i h0
    split at h
    · exact absurd (congrArg (fun q => q.2) h) (by simp)
    · obtain ⟨_, _, e1⟩ := Nm.get_one (hg.trans (by rw [Decidable.not_not.mp h0]))
      obtain ⟨y, e2, e3, e4, e5, e6⟩ := rdAll_one Ids.nil h
      rw [List.nil_append] at e2
      subst e2
      refine ⟨e5, e6, ?_⟩
      unfold textB
      rw [e3, e4, e1, List.take_append_drop]
theorem rdAll_bad : ∀ {m : Nat} {s : Bs} {out : List Pl}, (rdAll m s out).2 ≠ 0 → (rdAll m s out).1 = []
  | 0, s, out, h => by
    rw [rdAll] at h ⊢
    split
    · rfl
    · split
      · rfl
      · rename_i a b; rw [if_neg a, if_neg b] at h; exact absurd rfl h
  | m + 1, s, out, h => by
    rw [rdAll] at h ⊢
    split
    · rfl
    · rename_i a; rw [if_neg a] at h; exact rdAll_bad h
theorem read_bad {s : Bs} (h : (read s).2 ≠ 0) : (read s).1 = [] := by
  unfold read at h ⊢
  simp only at h ⊢
  split
  · rfl
  · split
    · rfl
    · rename_i a b; rw [if_neg a, if_neg b] at h; exact rdAll_bad h
end Ix
end Go.Proofs.Ytllioidjelgafab
