/-
  P27 to P30 (no Go in it): blobs, what a pack of them is, what is read of whatever bytes, and that what is packed is read as it was.
-/
import Derived.Test.YtllioidjelgafabMathBack
import Derived.Test.YtllioidjelgafabMixApartMath
namespace Go.Proofs.Ytllioidjelgafab
namespace Pk

abbrev Bs := List UInt8
/-- the eight bytes of a digest -/
def dg (s : Bs) : Bs := Nm.low 8 (Mx.narrow 64 s)
theorem dg_length (s : Bs) : (dg s).length = 8 := Nm.low_length 8 _
/-- a blob: its kind, its bytes -/
abbrev Bl := Int × Bs
/-- a row of a pack's list -/
structure En where
  id : Bs
  kind : Int
  at_ : Int
  len : Int
def kOK (k : Int) : Prop := k = 1 ∨ k = 2 ∨ k = 3
def idB (k : Int) (s : Bs) : Bs := dg (UInt8.ofNat k.toNat :: s)
def bid (b : Bl) : Bs := idB b.1 b.2
theorem bid_length (b : Bl) : (bid b).length = 8 := dg_length _
/-- what is wrong with a blob -/
def bErr (b : Bl) : Int := if b.1 = 1 ∨ b.1 = 2 ∨ b.1 = 3 then (if 4096 < b.2.length then 2 else 0) else 5
theorem bErr_ok {b : Bl} (h : bErr b = 0) : kOK b.1 ∧ b.2.length ≤ 4096 := by
  unfold bErr at h
  split at h
  · rename_i hk
    split at h
    · omega
    · exact ⟨hk, by omega⟩
  · omega
/-- what is wrong with blobs, behind those that were -/
def mErr (was : List Bl) : List Bl → Int
  | [] => 0
  | b :: r => if bErr b ≠ 0 then bErr b else if b ∈ was then 10 else if (bid b) ∈ was.map bid then 11 else mErr (was ++ [b]) r
def makeErr (l : List Bl) : Int := if 40 < l.length then 2 else mErr [] l
/-- a row of the list as bytes: the kind, the digest, how many bytes it has in the body -/
def rowB (b : Bl) (p : Bs) : Bs := UInt8.ofNat b.1.toNat :: ((bid b) ++ Nm.put p.length)
def rowsB : List Bl → List Bs → Bs
  | b :: l, p :: ps => rowB b p ++ rowsB l ps
  | _, _ => []
def listB (l : List Bl) (ps : List Bs) : Bs := Nm.put l.length ++ rowsB l ps
def two (n : Nat) : Bs := [UInt8.ofNat (n % 256), UInt8.ofNat (n / 256)]
/-- a pack but for its digest -/
def allB (l : List Bl) (ps : List Bs) : Bs := ps.flatten ++ (listB l ps ++ two (listB l ps).length)
def packB (l : List Bl) (ps : List Bs) : Bs := allB l ps ++ dg (allB l ps)

/-- the rows that are left of a list (body: how long it is; at_: where the next one begins) -/
def ents (body : Nat) : Nat → Bs → Nat → List En → List En × Int
  | 0, l, at_, out => if l ≠ [] ∨ at_ < body then ([], 4) else (out, 0)
  | m + 1, l, at_, out =>
    if l.length < 9 then ([], 3) else
    let k := (l.headD 0).toNat
    if ¬ (k = 1 ∨ k = 2 ∨ k = 3) then ([], 5) else
    let g := Nm.getN (l.drop 9)
    if g.2.2 ≠ 0 then ([], g.2.2) else
    if 4097 < g.1 then ([], 2) else
    if (l.drop 1).take 8 ∈ out.map En.id then ([], 4) else
    if body < at_ + g.1 then ([], 4) else
    ents body m (l.drop (9 + g.2.1)) (at_ + g.1) (out ++ [⟨(l.drop 1).take 8, k, at_, g.1⟩])
/-- the list, of a body that long -/
def lst (body : Nat) (l : Bs) : List En × Int :=
  let g := Nm.getN l
  if g.2.2 ≠ 0 then ([], g.2.2) else if 40 < g.1 then ([], 2) else ents body g.1 (l.drop g.2.1) 0 []
/-- how long the list says it is -/
def lenL (s : Bs) : Nat := (s.getD (s.length - 10) 0).toNat + 256 * (s.getD (s.length - 9) 0).toNat
/-- what List says -/
def ls (s : Bs) : List En × Int :=
  if s.length < 10 then ([], 3) else
  if dg (s.take (s.length - 8)) ≠ s.drop (s.length - 8) then ([], 6) else
  if s.length - 10 < lenL s then ([], 4) else
  lst (s.length - 10 - lenL s) ((s.take (s.length - 10)).drop (s.length - 10 - lenL s))
/-- what One says (op: what Open says) -/
def one (op : Bs → Bs × Int) (s : Bs) (x : En) : Bl × Int :=
  if x.at_ < 0 ∨ x.len < 0 ∨ (s.length : Int) < x.len ∨ (s.length : Int) - x.len < x.at_ then ((0, []), 1) else
  if ¬ (x.kind = 1 ∨ x.kind = 2 ∨ x.kind = 3) then ((0, []), 5) else
  let o := op ((s.drop x.at_.toNat).take x.len.toNat)
  if o.2 ≠ 0 then ((0, []), o.2) else
  if idB x.kind o.1 ≠ x.id then ((0, []), 6) else ((x.kind, o.1), 0)
/-- one by one -/
def ones (op : Bs → Bs × Int) (s : Bs) : List En → List Bl → List Bl × Int
  | [], out => (out, 0)
  | x :: r, out => if (one op s x).2 ≠ 0 then ([], (one op s x).2) else ones op s r (out ++ [(one op s x).1])
/-- what Split says -/
def split (op : Bs → Bs × Int) (s : Bs) : List Bl × Int := if (ls s).2 ≠ 0 then ([], (ls s).2) else ones op s (ls s).1 []

/-- the rows that a pack's list has -/
def entsOf : List Bl → List Bs → Nat → List En
  | b :: l, p :: ps, at_ => ⟨(bid b), b.1, at_, p.length⟩ :: entsOf l ps (at_ + p.length)
  | _, _, _ => []
theorem entsOf_length : ∀ (l : List Bl) (ps : List Bs) (n : Nat), l.length = ps.length → (entsOf l ps n).length = l.length
  | [], _, _, _ => by simp [entsOf]
  | _ :: l, [], _, h => by simp at h
  | b :: l, p :: ps, n, h => by
    simp only [entsOf, List.length_cons]
    rw [entsOf_length l ps _ (by simpa using h)]
theorem kind_byte {k : Int} (h : kOK k) : (UInt8.ofNat k.toNat).toNat = k.toNat ∧ (k.toNat = 1 ∨ k.toNat = 2 ∨ k.toNat = 3) ∧ (k.toNat : Int) = k := by
  rcases h with rfl | rfl | rfl <;> exact ⟨rfl, by decide, rfl⟩

/-- rows that are written are read -/
theorem ents_rows (body : Nat) : ∀ (l was : List Bl) (ps : List Bs) (at_ : Nat) (out : List En), l.length = ps.length → mErr was l = 0 →
    out.map En.id = was.map bid → (∀ p ∈ ps, p.length ≤ 4097) → at_ + ps.flatten.length = body →
    ents body l.length (rowsB l ps) at_ out = (out ++ entsOf l ps at_, 0)
  | [], _, ps, at_, out, hl, _, _, _, hb => by
    have : ps = [] := List.length_eq_zero_iff.1 hl.symm
    subst this
    simp only [List.length_nil, ents, rowsB, entsOf, List.append_nil]
    rw [if_neg]
    simp only [List.flatten_nil, List.length_nil] at hb
    intro h
    rcases h with h | h
    · exact h rfl
    · omega
  | _ :: _, _, [], _, _, hl, _, _, _, _ => by simp at hl
  | b :: l, was, p :: ps, at_, out, hl, he, ho, hp, hb => by
    rw [mErr] at he
    by_cases e0 : bErr b ≠ 0
    · rw [if_pos e0] at he; exact absurd he e0
    rw [if_neg e0] at he
    have e0' : bErr b = 0 := Classical.not_not.1 e0
    obtain ⟨hk, hlen⟩ := bErr_ok e0'
    by_cases e1 : b ∈ was
    · rw [if_pos e1] at he; omega
    rw [if_neg e1] at he
    by_cases e2 : (bid b) ∈ was.map bid
    · rw [if_pos e2] at he; omega
    rw [if_neg e2] at he
    obtain ⟨k0, k1, k2⟩ := kind_byte hk
    have hpl := hp p (List.mem_cons_self ..)
    have hid := bid_length b
    have hdrop9 : (rowsB (b :: l) (p :: ps)).drop 9 = Nm.put p.length ++ rowsB l ps := by
      rw [rowsB, rowB, List.cons_append, List.append_assoc, List.drop_succ_cons, List.drop_append_of_le_length (by omega), List.drop_of_length_le (by omega), List.nil_append]
    have htake : ((rowsB (b :: l) (p :: ps)).drop 1).take 8 = (bid b) := by
      rw [rowsB, rowB, List.cons_append, List.append_assoc, List.drop_succ_cons, List.drop_zero, List.take_append_of_le_length (by omega), List.take_of_length_le (by omega)]
    have hg := Nm.get_put p.length (rowsB l ps) (by omega)
    have hlong : ¬ (rowsB (b :: l) (p :: ps)).length < 9 := by
      rw [rowsB, rowB, List.cons_append, List.length_cons, List.append_assoc, List.length_append]
      omega
    have hhd : ((rowsB (b :: l) (p :: ps)).headD 0).toNat = b.1.toNat := k0
    have hdrop : (rowsB (b :: l) (p :: ps)).drop (9 + (Nm.put p.length).length) = rowsB l ps := by
      rw [← List.drop_drop, hdrop9, List.drop_append_of_le_length (Nat.le_refl _), List.drop_of_length_le (Nat.le_refl _), List.nil_append]
    have hfl : (p :: ps).flatten.length = p.length + ps.flatten.length := by simp
    rw [hfl] at hb
    rw [List.length_cons, ents, if_neg hlong]
    simp only [hhd, hdrop9, htake, hg]
    rw [if_neg (fun h => h k1), if_neg (fun h => h rfl), if_neg (by omega), if_neg (by rw [ho]; exact e2), if_neg (by omega), hdrop]
    rw [ents_rows body l (was ++ [b]) ps (at_ + p.length) _ (by simpa using hl) he (by rw [List.map_append, List.map_append, ho]; rfl) (fun q hq => hp q (List.mem_cons_of_mem _ hq)) (by omega)]
    rw [entsOf, List.append_assoc, k2]
    rfl
end Pk
end Go.Proofs.Ytllioidjelgafab
