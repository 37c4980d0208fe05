/-
  Plain facts (no Go in here) on shards: the first n that are there are those of the parts that come out; parts with so many shards alike are one.
-/
import Derived.Test.YtoeohnknpbdgdaaDoorShCheck
namespace Go.Proofs.YtoeohnknpbdgdaaDoor

theorem list_ext {a b : List Nat} (hl : a.length = b.length) (h : ∀ k, a.getD k 0 = b.getD k 0) : a = b := by
  refine List.ext_getElem hl fun i h1 h2 => ?_
  have := h i
  rwa [List.getD_eq_getElem?_getD, List.getD_eq_getElem?_getD, List.getElem?_eq_getElem h1, List.getElem?_eq_getElem h2] at this
theorem guard_nb {P : List ByteArray} {m j : Nat} (hP : 1 ≤ P.length) (hm : ∀ s ∈ P, s.size = m) : nb (Fd.guard P j) = Fd.gd P m j P.length := by
  rw [Fd.guard, nb_bn (Fd.gd_bs _ _ _ _), hm _ (mem_getD (i := 0) (by omega))]
theorem guard_size {P : List ByteArray} {m j : Nat} (hP : 1 ≤ P.length) (hm : ∀ s ∈ P, s.size = m) : (Fd.guard P j).size = m := by
  rw [← nb_length, guard_nb hP hm]
  exact Fd.gd_length hm j _ (Nat.le_refl _)
/-- a part that is there -/
theorem Fine.part {l : List Shd} {n k : Nat} (_ : Fine l n) (hk : k < n) (ht : hasF l k = true) : (mnd l n).getD k ByteArray.empty = (l.getD k Shd.none).bytes := by
  rw [mnd_get hk, Fd.part, if_pos ht]
  exact bn_nb _
/-- a guard that is among the first n that are there -/
theorem Fine.guard {l : List Shd} {n j : Nat} (f : Fine l n) (hj : n + j < l.length) (ht : hasF l (n + j) = true) (hc : Fd.cnt (hasF l) (n + j) < n) : (l.getD (n + j) Shd.none).bytes = Fd.guard (mnd l n) j := by
  have h1 := f.n1
  have h16 := f.n16
  have h8 := f.most
  have hlen : (mnd l n).length = n := mnd_length l n
  apply nb_inj
  rw [guard_nb (m := lenF l) (by rw [hlen]; exact h1) f.sizes, hlen]
  refine list_ext ?_ fun a => ?_
  · rw [Fd.gd_length f.sizes j n (by rw [hlen]; exact Nat.le_refl _)]
    exact f.len (n + j) (by omega) ht
  · rw [Fd.gd_get f.sizes (by omega) (by rw [hlen]; omega) a n (by rw [hlen]; exact Nat.le_refl _)]
    have := Fd.part_guard (by omega) (by omega) f.cnt f.len f.bs (j := j) (by omega) ht hc a
    rw [show nb (l.getD (n + j) Shd.none).bytes = bytF l (n + j) from rfl, ← this]
    exact Fd.sm_congr fun q hq => by rw [mnd_get hq, nb_bn (f.part_bs hq)]

/-- the bytes of the parts at one place -/
def col (P : List ByteArray) (a : Nat) : List Nat := P.map fun s => (nb s).getD a 0
theorem col_length (P : List ByteArray) (a : Nat) : (col P a).length = P.length := by simp [col]
theorem col_bs (P : List ByteArray) (a : Nat) : Fd.Bs (col P a) := fun c hc => by
  obtain ⟨s, _, rfl⟩ := List.mem_map.mp hc
  exact Fd.get_lt (nb_bs s) a
theorem col_get {P : List ByteArray} {a i : Nat} (h : i < P.length) : (col P a).getD i 0 = (nb (P.getD i ByteArray.empty)).getD a 0 := by
  rw [List.getD_eq_getElem?_getD, List.getElem?_eq_getElem (by rw [col_length]; exact h), List.getD_eq_getElem?_getD (l := P), List.getElem?_eq_getElem h]
  simp [col]
/-- P25: shard k of the parts -/
def shd (P : List ByteArray) (k : Nat) : ByteArray := if k < P.length then P.getD k ByteArray.empty else Fd.guard P (k - P.length)
/-- the shards' bytes at one place are the shards of the parts' bytes there -/
theorem shd_get {P : List ByteArray} {m k : Nat} (hP : 1 ≤ P.length) (hP2 : P.length ≤ 16) (hm : ∀ s ∈ P, s.size = m) (hk : k < P.length + 8) (a : Nat) : (nb (shd P k)).getD a 0 = Fd.sh (col P a) k := by
  unfold shd Fd.sh
  by_cases h : k < P.length
  · rw [if_pos h, dif_pos (by rw [col_length]; exact h), ← col_get h]
    rw [List.getD_eq_getElem?_getD, List.getElem?_eq_getElem (by rw [col_length]; exact h)]
    rfl
  · rw [if_neg h, dif_neg (by rw [col_length]; exact h), guard_nb hP hm, Fd.gd_get hm (by omega) (by omega) a _ (Nat.le_refl _), Fd.gsum_sm, col_length]
    exact Fd.sm_congr fun q hq => by rw [col_get hq, Nat.zero_add]; rfl
theorem shd_size {P : List ByteArray} {m k : Nat} (hP : 1 ≤ P.length) (hm : ∀ s ∈ P, s.size = m) : (shd P k).size = m := by
  unfold shd
  split
  · next h => exact hm _ (mem_getD h)
  · exact guard_size hP hm
/-- how many of the first q shards are alike -/
def same (P Q : List ByteArray) : Nat → Nat
  | 0 => 0
  | q + 1 => same P Q q + if shd P q = shd Q q then 1 else 0
theorem same_le (P Q : List ByteArray) : ∀ q, same P Q q ≤ q
  | 0 => Nat.le_refl _
  | q + 1 => by
    have := same_le P Q q
    rw [same]
    split <;> omega
/-- SINGLETON: unlike parts have fewer shards alike than there are parts -/
theorem same_lt {P Q : List ByteArray} {m : Nat} (hP : 1 ≤ P.length) (hP2 : P.length ≤ 16) (hl : Q.length = P.length) (hm : ∀ s ∈ P, s.size = m) (hq : ∀ s ∈ Q, s.size = m) (hne : P ≠ Q) : ∀ q, q ≤ P.length + 8 → same P Q q < P.length := by
  -- a place at which they are unlike
  have ⟨a, ha⟩ : ∃ a, col P a ≠ col Q a := by
    refine Classical.byContradiction fun h => hne ?_
    have hall : ∀ a, col P a = col Q a := fun a => Classical.byContradiction fun h2 => h ⟨a, h2⟩
    refine List.ext_getElem hl.symm fun i h1 h2 => ?_
    apply nb_inj
    refine list_ext ?_ fun a => ?_
    · rw [nb_length, nb_length, hm _ (List.getElem_mem h1), hq _ (List.getElem_mem h2)]
    · have e1 := col_get (a := a) h1
      have e2 := col_get (a := a) h2
      rw [hall a, e2] at e1
      rw [List.getD_eq_getElem?_getD (l := P), List.getElem?_eq_getElem h1, List.getD_eq_getElem?_getD (l := Q), List.getElem?_eq_getElem h2] at e1
      exact e1.symm
  intro q hqq
  have key : ∀ q, q ≤ P.length + 8 → same P Q q ≤ Fd.alike (col P a) (col Q a) q := by
    intro q
    induction q with
    | zero => intro _; exact Nat.le_refl _
    | succ q ih =>
      intro h
      have h1 := ih (by omega)
      rw [same, Fd.alike]
      by_cases e : shd P q = shd Q q
      · rw [if_pos e, if_pos]
        · omega
        · rw [← shd_get hP hP2 hm (by omega), ← shd_get (by omega) (by omega) hq (by omega), e]
      · rw [if_neg e]; omega
  have h1 := key q hqq
  have h2 := Fd.alike_lt (v := col P a) (w := col Q a) (by rw [col_length, col_length, hl]) (col_bs P a) (col_bs Q a) (by rw [col_length]; omega) ha (m := q) (by rw [col_length]; omega)
  rw [col_length] at h2
  omega
/-- so many alike that they are one -/
theorem same_all {P Q : List ByteArray} {m q : Nat} (hP : 1 ≤ P.length) (hP2 : P.length ≤ 16) (hl : Q.length = P.length) (hm : ∀ s ∈ P, s.size = m) (hq : ∀ s ∈ Q, s.size = m) (hqq : q ≤ P.length + 8) (h : P.length ≤ same P Q q) : P = Q :=
  Classical.byContradiction fun hne => by
    have := same_lt hP hP2 hl hm hq hne q hqq
    omega
end Go.Proofs.YtoeohnknpbdgdaaDoor
