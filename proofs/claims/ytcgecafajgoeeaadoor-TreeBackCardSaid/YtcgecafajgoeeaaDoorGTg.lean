/-
  P45 (no Go in it): a reader that keeps its first error reads what Td.read says.
  What Check and Find of package tree answer.
  What appendNumber, appendText, appendNode and Write of package tree answer.
  What the reader of package tree answers: numbers, texts, bytes.
  What the reader of package tree answers: IDs.
  What the reader of package tree answers: nodes; what Read answers.
  What the reader of package tree answers: all nodes; what Read answers.
-/
import Derived.Test.YtcgecafajgoeeaaDoorTrMath
import Derived.Test.YtcgecafajgoeeaaDoorRtNodes
import Derived.Test.YtcgecafajgoeeaaDoorRtIdx
import Derived.Test.YtcgecafajgoeeaaDoorNnValid
import Derived.Test.YtcgecafajgoeeaaDoorPutInt
import Derived.Test.YtcgecafajgoeeaaDoorPutText
import Derived.Lib.AppendStr
import Derived.Deep.Cut
import Derived.Deep.MidRow
import Derived.Test.YtcgecafajgoeeaaDoorGet
import Derived.Test.YtcgecafajgoeeaaDoorGetInt
import Derived.Test.YtcgecafajgoeeaaDoorGetText
import Derived.Deep.RegionWith
import Derived.Lib.LazyBuf
import Derived.Test.YtcgecafajgoeeaaDoorRtTree
import Derived.BigQuiet

namespace Go.Proofs.YtcgecafajgoeeaaDoor
namespace Td

/-- what is left, and the first error -/
abbrev St := Bs × Int
def tk (k : Nat) (e : Int) (x : St) : Bool × St := if x.2 ≠ 0 then (false, x) else if e ≠ 0 then (false, (x.1, e)) else (true, (x.1.drop k, 0))
def nuE (most : Nat) (s : Bs) : Int := if (Nm.getN s).2.2 = 0 ∧ most < (Nm.getN s).1 then 2 else (Nm.getN s).2.2
def sNum (most : Nat) (x : St) : Nat × St := (if (tk (Nm.getN x.1).2.1 (nuE most x.1) x).1 = true then (Nm.getN x.1).1 else 0, (tk (Nm.getN x.1).2.1 (nuE most x.1) x).2)
def sInt (x : St) : Int × St := (if (tk (Nm.getI x.1).2.1 (Nm.getI x.1).2.2 x).1 = true then (Nm.getI x.1).1 else 0, (tk (Nm.getI x.1).2.1 (Nm.getI x.1).2.2 x).2)
def sTxt (x : St) : Bs × St := (if (tk (Nm.getT x.1).2.1 (Nm.getT x.1).2.2 x).1 = true then (Nm.getT x.1).1 else [], (tk (Nm.getT x.1).2.1 (Nm.getT x.1).2.2 x).2)
def shE (k : Nat) (s : Bs) : Int := if s.length < k then 3 else 0
def sByt (k : Nat) (x : St) : Bs × St := (if (tk k (shE k x.1) x).1 = true then x.1.take k else [], (tk k (shE k x.1) x).2)
def sKind (x : St) : Nat × St := (((sByt 1 x).1.headD 0).toNat, (sByt 1 x).2)
def eight (s : Bs) : Bs := s ++ List.replicate (8 - s.length) 0
def sIds : Nat → St → List Bs × St
  | 0, x => ([], x)
  | j + 1, x => ((sIds j x).1 ++ [eight (sByt 8 (sIds j x).2).1], (sByt 8 (sIds j x).2).2)
def sParts (x : St) : List Bs × St := sIds (sNum 300 x).1 (sNum 300 x).2
def sNode (x : St) : Nd × St :=
  let a := sTxt x
  let b := sKind a.2
  let c := sNum 511 b.2
  let d := sInt c.2
  let e := sNum 4096 d.2
  let f := sParts e.2
  let g := sTxt f.2
  (⟨a.1, b.1, c.1, d.1, e.1, f.1, g.1⟩, g.2)
def sAll : Nat → St → List Nd × St
  | 0, x => ([], x)
  | j + 1, x => ((sAll j x).1 ++ [(sNode (sAll j x).2).1], (sNode (sAll j x).2).2)

/-! what has an error stays -/
theorem tk_stay {k : Nat} {e : Int} {x : St} (h : x.2 ≠ 0) : tk k e x = (false, x) := by unfold tk; rw [if_pos h]
theorem tk_err {k : Nat} {e : Int} {s : Bs} (h : e ≠ 0) : tk k e (s, 0) = (false, (s, e)) := by unfold tk; rw [if_neg (fun q => q rfl), if_pos h]
theorem tk_ok {k : Nat} {s : Bs} : tk k 0 (s, 0) = (true, (s.drop k, 0)) := by unfold tk; rw [if_neg (fun q => q rfl), if_neg (fun q => q rfl)]
theorem sNum_stay {m : Nat} {x : St} (h : x.2 ≠ 0) : sNum m x = (0, x) := by unfold sNum; rw [tk_stay h]; rfl
theorem sInt_stay {x : St} (h : x.2 ≠ 0) : sInt x = (0, x) := by unfold sInt; rw [tk_stay h]; rfl
theorem sTxt_stay {x : St} (h : x.2 ≠ 0) : sTxt x = ([], x) := by unfold sTxt; rw [tk_stay h]; rfl
theorem sByt_stay {k : Nat} {x : St} (h : x.2 ≠ 0) : sByt k x = ([], x) := by unfold sByt; rw [tk_stay h]; rfl
theorem sKind_stay {x : St} (h : x.2 ≠ 0) : sKind x = (0, x) := by unfold sKind; rw [sByt_stay h]; rfl
theorem sIds_stay {x : St} (h : x.2 ≠ 0) : ∀ j, (sIds j x).2 = x
  | 0 => rfl
  | j + 1 => by
    have i := sIds_stay h j
    show (sByt 8 (sIds j x).2).2 = x
    rw [i, sByt_stay h]
theorem sParts_stay {x : St} (h : x.2 ≠ 0) : (sParts x).2 = x := by unfold sParts; rw [sNum_stay h]; rfl
theorem sNode_stay {x : St} (h : x.2 ≠ 0) : (sNode x).2 = x := by
  unfold sNode
  simp only [sTxt_stay h, sKind_stay h, sNum_stay h, sInt_stay h, sParts_stay h]
theorem sAll_stay {x : St} (h : x.2 ≠ 0) : ∀ j, (sAll j x).2 = x
  | 0 => rfl
  | j + 1 => by
    have i := sAll_stay h j
    show (sNode (sAll j x).2).2 = x
    rw [i, sNode_stay h]

/-! as the plain reading says -/
theorem sNum_ok {m n : Nat} {s r : Bs} (h : num m s = (n, r, 0)) : sNum m (s, 0) = (n, (r, 0)) := by
  unfold num at h
  simp only at h
  split at h
  · rename_i q; exact absurd (congrArg (fun q => q.2.2) h) q
  · rename_i q
    split at h
    · exact absurd (congrArg (fun q => q.2.2) h) (by simp)
    · rename_i q2
      have e1 : (Nm.getN s).1 = n := congrArg (fun q => q.1) h
      have e2 : s.drop (Nm.getN s).2.1 = r := congrArg (fun q => q.2.1) h
      have e3 : nuE m s = 0 := by unfold nuE; rw [if_neg (fun k => q2 k.2)]; exact Decidable.not_not.mp q
      unfold sNum
      simp only [e3, tk_ok, e1, e2, if_true]
theorem sNum_err {m n : Nat} {s r : Bs} {e : Int} (h : num m s = (n, r, e)) (he : e ≠ 0) : (sNum m (s, 0)).2 = (s, e) := by
  have : nuE m s = e := by
    unfold num at h
    simp only at h
    split at h
    · rename_i q
      unfold nuE
      rw [if_neg (fun k => q k.1)]
      exact congrArg (fun q => q.2.2) h
    · rename_i q
      split at h
      · rename_i q2
        unfold nuE
        rw [if_pos ⟨Decidable.not_not.mp q, q2⟩]
        exact congrArg (fun q => q.2.2) h
      · exact absurd (congrArg (fun q => q.2.2) h).symm he
  unfold sNum
  simp only [this, tk_err he]
theorem sInt_ok {k : Nat} {i : Int} {s : Bs} (h : Nm.getI s = (i, k, 0)) : sInt (s, 0) = (i, (s.drop k, 0)) := by
  unfold sInt; simp only [h, tk_ok, if_true]
theorem sInt_err {k : Nat} {i e : Int} {s : Bs} (h : Nm.getI s = (i, k, e)) (he : e ≠ 0) : (sInt (s, 0)).2 = (s, e) := by
  unfold sInt; simp only [h, tk_err he]
theorem sTxt_ok {k : Nat} {t s : Bs} (h : Nm.getT s = (t, k, 0)) : sTxt (s, 0) = (t, (s.drop k, 0)) := by
  unfold sTxt; simp only [h, tk_ok, if_true]
theorem sTxt_err {k : Nat} {e : Int} {t s : Bs} (h : Nm.getT s = (t, k, e)) (he : e ≠ 0) : (sTxt (s, 0)).2 = (s, e) := by
  unfold sTxt; simp only [h, tk_err he]
theorem sByt_ok {k : Nat} {s : Bs} (h : k ≤ s.length) : sByt k (s, 0) = (s.take k, (s.drop k, 0)) := by
  have : shE k s = 0 := by unfold shE; rw [if_neg (by omega)]
  unfold sByt; simp only [this, tk_ok, if_true]
theorem sByt_err {k : Nat} {s : Bs} (h : s.length < k) : (sByt k (s, 0)).2 = (s, 3) := by
  have : shE k s = 3 := by unfold shE; rw [if_pos h]
  unfold sByt; simp only [this, tk_err (show (3 : Int) ≠ 0 by decide)]
theorem sKind_ok {s : Bs} (h : s ≠ []) : sKind (s, 0) = ((s.headD 0).toNat, (s.tail, 0)) := by
  unfold sKind
  cases s with
  | nil => exact absurd rfl h
  | cons a b => rw [sByt_ok (by simp)]; simp
theorem sKind_err : (sKind ([], 0)).2 = ([], 3) := by unfold sKind; rw [sByt_err (by simp)]
theorem eights_snoc : ∀ (j : Nat) (l : Bs), eights (j + 1) l = eights j l ++ [(l.drop (8 * j)).take 8]
  | 0, l => rfl
  | j + 1, l => by
    rw [eights, eights_snoc j (l.drop 8), List.drop_drop, show 8 + 8 * j = 8 * (j + 1) from by omega]
    rfl
theorem eight_id {s : Bs} (h : s.length = 8) : eight s = s := by unfold eight; rw [h]; simp
theorem sIds_ok {s : Bs} : ∀ {j : Nat}, 8 * j ≤ s.length → sIds j (s, 0) = (eights j s, (s.drop (8 * j), 0))
  | 0, _ => rfl
  | j + 1, h => by
    have i := sIds_ok (s := s) (j := j) (by omega)
    have l8 : 8 ≤ (s.drop (8 * j)).length := by rw [List.length_drop]; omega
    rw [sIds, i]
    simp only
    rw [sByt_ok l8, eights_snoc, eight_id (by rw [List.length_take]; omega), List.drop_drop, show 8 * j + 8 = 8 * (j + 1) from by omega]
theorem sIds_err {s : Bs} : ∀ {j : Nat}, s.length < 8 * j → (sIds j (s, 0)).2.2 = 3
  | 0, h => absurd h (by omega)
  | j + 1, h => by
    show (sByt 8 (sIds j (s, 0)).2).2.2 = 3
    by_cases q : s.length < 8 * j
    · have i := sIds_err q
      rw [sByt_stay (by rw [i]; decide)]
      exact i
    · rw [sIds_ok (by omega)]
      simp only
      rw [sByt_err (by rw [List.length_drop]; omega)]
theorem sNode_rd (s : Bs) : ((rdOne s).2.2 = 0 → sNode (s, 0) = ((rdOne s).1, ((rdOne s).2.1, 0))) ∧ ((rdOne s).2.2 ≠ 0 → (sNode (s, 0)).2.2 = (rdOne s).2.2) := by
  unfold rdOne sNode
  rcases ht : Nm.getT s with ⟨t, kt, et⟩
  simp only
  by_cases q1 : et ≠ 0
  · rw [if_pos q1]
    have k := sTxt_err ht q1
    have z : (sTxt (s, 0)).2.2 ≠ 0 := by rw [k]; exact q1
    simp only [sKind_stay z, sNum_stay z, sInt_stay z, sParts_stay z, sTxt_stay z]
    exact ⟨fun h => absurd h q1, fun _ => by rw [k]⟩
  obtain rfl := Decidable.not_not.mp q1
  rw [if_neg q1, sTxt_ok ht]
  simp only
  by_cases q2 : s.drop kt = []
  · rw [if_pos q2, q2]
    have k := sKind_err
    have z : (sKind ([], 0)).2.2 ≠ 0 := by rw [k]; decide
    simp only [sNum_stay z, sInt_stay z, sParts_stay z, sTxt_stay z]
    exact ⟨fun h => absurd h (by decide), fun _ => by rw [k]⟩
  rw [if_neg q2, sKind_ok q2]
  simp only
  rcases hm : num 511 (s.drop kt).tail with ⟨m, s2, em⟩
  simp only
  by_cases q3 : em ≠ 0
  · rw [if_pos q3]
    have k := sNum_err hm q3
    have z : (sNum 511 ((s.drop kt).tail, 0)).2.2 ≠ 0 := by rw [k]; exact q3
    simp only [sNum_stay z, sInt_stay z, sParts_stay z, sTxt_stay z]
    exact ⟨fun h => absurd h q3, fun _ => by rw [k]⟩
  obtain rfl := Decidable.not_not.mp q3
  rw [if_neg q3, sNum_ok hm]
  simp only
  rcases hi : Nm.getI s2 with ⟨i, ki, ei⟩
  simp only
  by_cases q4 : ei ≠ 0
  · rw [if_pos q4]
    have k := sInt_err hi q4
    have z : (sInt (s2, 0)).2.2 ≠ 0 := by rw [k]; exact q4
    simp only [sNum_stay z, sParts_stay z, sTxt_stay z]
    exact ⟨fun h => absurd h q4, fun _ => by rw [k]⟩
  obtain rfl := Decidable.not_not.mp q4
  rw [if_neg q4, sInt_ok hi]
  simp only
  rcases hz : num 4096 (s2.drop ki) with ⟨z, s3, ez⟩
  simp only
  by_cases q5 : ez ≠ 0
  · rw [if_pos q5]
    have k := sNum_err hz q5
    have z : (sNum 4096 (s2.drop ki, 0)).2.2 ≠ 0 := by rw [k]; exact q5
    simp only [sParts_stay z, sTxt_stay z]
    exact ⟨fun h => absurd h q5, fun _ => by rw [k]⟩
  obtain rfl := Decidable.not_not.mp q5
  rw [if_neg q5, sNum_ok hz]
  simp only
  rcases hp : num 300 s3 with ⟨p, s4, ep⟩
  simp only
  by_cases q6 : ep ≠ 0
  · rw [if_pos q6]
    have k := sNum_err hp q6
    have z : (sParts (s3, 0)).2 = (s3, ep) := by
      unfold sParts
      rw [sIds_stay (by rw [k]; exact q6), k]
    have z2 : (sParts (s3, 0)).2.2 ≠ 0 := by rw [z]; exact q6
    simp only [sTxt_stay z2]
    exact ⟨fun h => absurd h q6, fun _ => by rw [z]⟩
  obtain rfl := Decidable.not_not.mp q6
  rw [if_neg q6]
  have hsp : sParts (s3, 0) = sIds p (s4, 0) := by unfold sParts; rw [sNum_ok hp]
  rw [hsp]
  by_cases q7 : s4.length < 8 * p
  · rw [if_pos q7]
    have k := sIds_err q7
    have z : (sIds p (s4, 0)).2.2 ≠ 0 := by rw [k]; decide
    simp only [sTxt_stay z]
    exact ⟨fun h => absurd h (by decide), fun _ => k⟩
  rw [if_neg q7, sIds_ok (by omega)]
  simp only
  rcases hk : Nm.getT (s4.drop (8 * p)) with ⟨k, kk, ek⟩
  simp only
  by_cases q8 : ek ≠ 0
  · rw [if_pos q8]
    have k := sTxt_err hk q8
    exact ⟨fun h => absurd h q8, fun _ => by rw [k]⟩
  obtain rfl := Decidable.not_not.mp q8
  rw [if_neg q8, sTxt_ok hk]
  exact ⟨fun _ => rfl, fun h => absurd rfl h⟩
theorem sAll_rd (s : Bs) (m : Nat) : ∀ j, j ≤ m → ((sAll j (s, 0)).2.2 = 0 → rdAll m s [] = rdAll (m - j) (sAll j (s, 0)).2.1 (sAll j (s, 0)).1) ∧ ((sAll j (s, 0)).2.2 ≠ 0 → rdAll m s [] = ([], (sAll j (s, 0)).2.2))
  | 0, _ => ⟨fun _ => rfl, fun h => absurd rfl h⟩
  | j + 1, hj => by
    obtain ⟨i1, i2⟩ := sAll_rd s m j (by omega)
    have e2 : (sAll (j + 1) (s, 0)).2 = (sNode (sAll j (s, 0)).2).2 := rfl
    have e1 : (sAll (j + 1) (s, 0)).1 = (sAll j (s, 0)).1 ++ [(sNode (sAll j (s, 0)).2).1] := rfl
    rw [e2, e1]
    generalize sAll j (s, 0) = A at *
    obtain ⟨L, r, e⟩ := A
    simp only at i1 i2 ⊢
    by_cases he : e ≠ 0
    · rw [sNode_stay (x := (r, e)) he]
      exact ⟨fun h => absurd h he, fun _ => i2 he⟩
    obtain rfl := Decidable.not_not.mp he
    rw [i1 rfl, show m - j = (m - (j + 1)) + 1 from by omega, rdAll]
    obtain ⟨n1, n2⟩ := sNode_rd r
    by_cases h1 : (rdOne r).2.2 = 0
    · rw [n1 h1]
      simp only
      rw [if_neg (fun k => k h1)]
      exact ⟨fun _ => rfl, fun h => absurd rfl h⟩
    · rw [n2 h1]
      exact ⟨fun h => absurd h h1, fun _ => by rw [if_pos h1]⟩
/-- what Read says, by such a reader -/
theorem read_st {s : Bs} (h : ¬ 4096 < s.length) {L : List Nd} {r : Bs} {e : Int} (hA : sAll (sNum 64 (s, 0)).1 (sNum 64 (s, 0)).2 = (L, (r, e))) :
    read s = if e ≠ 0 then ([], e) else if r ≠ [] then ([], 4) else if check L ≠ 0 then ([], check L) else (L, 0) := by
  unfold read
  rw [if_neg h]
  rcases hg : num 64 s with ⟨n, k, eg⟩
  simp only
  by_cases hq : eg ≠ 0
  · rw [if_pos hq]
    have z := sNum_err hg hq
    have y := sAll_stay (x := (sNum 64 (s, 0)).2) (by rw [z]; exact hq) (sNum 64 (s, 0)).1
    rw [hA, z] at y
    obtain rfl : e = eg := congrArg (fun q => q.2) y
    rw [if_pos hq]
  · rw [if_neg hq]
    obtain rfl := Decidable.not_not.mp hq
    rw [sNum_ok hg] at hA
    obtain ⟨a1, a2⟩ := sAll_rd k n n (Nat.le_refl _)
    simp only at hA
    rw [hA] at a1 a2
    simp only at a1 a2
    by_cases he : e ≠ 0
    · rw [if_pos he, a2 he]
    · rw [if_neg he, a1 (Decidable.not_not.mp he), Nat.sub_self, rdAll]

/-! bounds -/
theorem tk_len (k : Nat) (e : Int) (x : St) : (tk k e x).2.1.length ≤ x.1.length := by
  unfold tk; split
  · exact Nat.le_refl _
  · split
    · exact Nat.le_refl _
    · simp
theorem tk_true {k : Nat} {e : Int} {x : St} (h : (tk k e x).1 = true) : x.2 = 0 ∧ e = 0 := by
  unfold tk at h
  split at h
  · cases h
  · rename_i q
    split at h
    · cases h
    · rename_i q2
      exact ⟨Decidable.not_not.mp q, Decidable.not_not.mp q2⟩
theorem sNum_most (m : Nat) (x : St) : (sNum m x).1 ≤ m := by
  unfold sNum
  simp only
  split
  · rename_i h
    have := (tk_true h).2
    unfold nuE at this
    split at this
    · cases this
    · rename_i q
      by_cases h2 : m < (Nm.getN x.1).1
      · exact absurd ⟨this, h2⟩ q
      · omega
  · exact Nat.zero_le _
theorem sNum_len (m : Nat) (x : St) : (sNum m x).2.1.length ≤ x.1.length := tk_len _ _ _
theorem sInt_len (x : St) : (sInt x).2.1.length ≤ x.1.length := tk_len _ _ _
theorem sTxt_len (x : St) : (sTxt x).2.1.length ≤ x.1.length := tk_len _ _ _
theorem sByt_len (k : Nat) (x : St) : (sByt k x).2.1.length ≤ x.1.length := tk_len _ _ _
theorem sKind_len (x : St) : (sKind x).2.1.length ≤ x.1.length := tk_len _ _ _
theorem sIds_len (x : St) : ∀ j, (sIds j x).2.1.length ≤ x.1.length
  | 0 => Nat.le_refl _
  | j + 1 => Nat.le_trans (sByt_len 8 _) (sIds_len x j)
theorem sParts_len (x : St) : (sParts x).2.1.length ≤ x.1.length := Nat.le_trans (sIds_len _ _) (sNum_len _ _)
theorem sInt_bd (x : St) : -9223372036854775808 ≤ (sInt x).1 ∧ (sInt x).1 ≤ 9223372036854775807 := by
  unfold sInt
  simp only
  split
  · rename_i h
    rcases hg : Nm.getI x.1 with ⟨i, k, e⟩
    rw [hg] at h
    have he := (tk_true h).2
    simp only at he
    subst he
    obtain ⟨_, a, b, _⟩ := Nm.getI_one hg
    exact ⟨a, b⟩
  · exact ⟨by decide, by decide⟩
theorem sTxt_bd (x : St) : (sTxt x).1.length ≤ 1024 := by
  unfold sTxt
  simp only
  split
  · rename_i h
    rcases hg : Nm.getT x.1 with ⟨t, k, e⟩
    rw [hg] at h
    have he := (tk_true h).2
    simp only at he
    subst he
    exact (Nm.getT_one hg).2.1
  · simp
theorem sByt_bd (k : Nat) (x : St) : (sByt k x).1.length ≤ k := by
  unfold sByt
  simp only
  split
  · rw [List.length_take]; omega
  · simp
theorem eight_len {s : Bs} (h : s.length ≤ 8) : (eight s).length = 8 := by unfold eight; rw [List.length_append, List.length_replicate]; omega
theorem sIds_bd (x : St) : ∀ j, (sIds j x).1.length = j ∧ ∀ p ∈ (sIds j x).1, p.length = 8
  | 0 => ⟨rfl, fun p h => absurd h List.not_mem_nil⟩
  | j + 1 => by
    obtain ⟨a, b⟩ := sIds_bd x j
    refine ⟨by show ((sIds j x).1 ++ [_]).length = _; rw [List.length_append, a]; rfl, fun p hp => ?_⟩
    rcases List.mem_append.1 (show p ∈ (sIds j x).1 ++ [eight (sByt 8 (sIds j x).2).1] from hp) with h | h
    · exact b p h
    · rw [List.mem_singleton.1 h]; exact eight_len (sByt_bd _ _)
theorem sParts_bd (x : St) : (sParts x).1.length ≤ 300 ∧ ∀ p ∈ (sParts x).1, p.length = 8 := by
  obtain ⟨a, b⟩ := sIds_bd (sNum 300 x).2 (sNum 300 x).1
  exact ⟨by show (sIds _ _).1.length ≤ _; rw [a]; exact sNum_most _ _, b⟩
theorem sKind_bd (x : St) : (sKind x).1 ≤ 255 := by
  unfold sKind
  simp only
  have := ((sByt 1 x).1.headD 0).toNat_lt
  omega
theorem sNode_len (x : St) : (sNode x).2.1.length ≤ x.1.length := by
  unfold sNode
  simp only
  exact Nat.le_trans (sTxt_len _) (Nat.le_trans (sParts_len _) (Nat.le_trans (sNum_len _ _) (Nat.le_trans (sInt_len _) (Nat.le_trans (sNum_len _ _) (Nat.le_trans (sKind_len _) (sTxt_len _))))))
theorem sAll_len (x : St) : ∀ j, (sAll j x).2.1.length ≤ x.1.length ∧ (sAll j x).1.length = j
  | 0 => ⟨Nat.le_refl _, rfl⟩
  | j + 1 => by
    obtain ⟨a, b⟩ := sAll_len x j
    refine ⟨Nat.le_trans (sNode_len _) a, ?_⟩
    show ((sAll j x).1 ++ [_]).length = _
    rw [List.length_append, b]
    rfl
end Td
end Go.Proofs.YtcgecafajgoeeaaDoor

namespace Go.Proofs.YtcgecafajgoeeaaDoor
open Go.RowKit
set_option maxRecDepth 4000

/-- a node that is not as its kind asks -/
def Td.Bad (n : Td.Nd) : Prop := (n.kind = 1 ∧ n.link ≠ []) ∨ (1 < n.kind ∧ n.size ≠ 0) ∨ (n.kind = 2 ∧ (n.parts.length ≠ 1 ∨ n.link ≠ [])) ∨ (n.kind = 3 ∧ (n.parts.length ≠ 0 ∨ n.link = []))

theorem upto_any (n m : Int) (b : Bool) (w : World) (hb : decide (0 ≤ n ∧ n ≤ m) = b) : Calls Tryd.prog 38 #[.int .i64 n, .int .i64 m] w fun e w' => e = .returned (.bool b) ∧ w' = w := by
  by_cases h0 : 0 ≤ n
  · by_cases h1 : n ≤ m
    · obtain rfl : b = true := by rw [← hb]; exact decide_eq_true ⟨h0, h1⟩
      clear hb
      go_enter Tryd.func38, Tryd.ntmps38
      go_wp2_with fail
      go_ret
      exact ⟨rfl, rfl⟩
    · obtain rfl : b = false := by rw [← hb]; exact decide_eq_false (fun q => h1 q.2)
      clear hb
      go_enter Tryd.func38, Tryd.ntmps38
      go_wp2_with fail
      go_ret
      exact ⟨rfl, rfl⟩
  · obtain rfl : b = false := by rw [← hb]; exact decide_eq_false (fun q => h0 q.1)
    clear hb
    go_enter Tryd.func38, Tryd.ntmps38
    go_wp2_with fail
    go_ret
    exact ⟨rfl, rfl⟩

theorem iskind_any (n : Int) (b : Bool) (w : World) (hb : decide (1 ≤ n ∧ n ≤ 3) = b) : Calls Tryd.prog 39 #[.int .i64 n] w fun e w' => e = .returned (.bool b) ∧ w' = w := by
  subst hb
  by_cases h1 : n = 1
  · subst h1
    go_enter Tryd.func39, Tryd.ntmps39
    go_wp2_with fail
    go_ret
    exact ⟨by simp, rfl⟩
  by_cases h2 : n = 2
  · subst h2
    go_enter Tryd.func39, Tryd.ntmps39
    go_wp2_with fail
    go_ret
    exact ⟨by simp, rfl⟩
  by_cases h3 : n = 3
  · subst h3
    go_enter Tryd.func39, Tryd.ntmps39
    go_wp2_with fail
    go_ret
    exact ⟨by simp, rfl⟩
  have q1 : (n == 1) = false := beq_eq_false_iff_ne.2 h1
  have q2 : (n == 2) = false := beq_eq_false_iff_ne.2 h2
  have q3 : (n == 3) = false := beq_eq_false_iff_ne.2 h3
  have hr : decide (1 ≤ n ∧ n ≤ 3) = false := decide_eq_false (by omega)
  rw [hr]
  clear hr h1 h2 h3
  go_enter Tryd.func39, Tryd.ntmps39
  go_wp2_with fail
  go_ret
  exact ⟨by simp, rfl⟩

set_option maxHeartbeats 2000000 in
set_option maxRecDepth 10000 in
theorem asks_any (n : Nod) (a : Option Addr) (c : Nat) (b : Bool) (w : World) (hk : n.kind = 1 ∨ n.kind = 2 ∨ n.kind = 3) (hb : b = true ↔ ¬ Td.Bad n.nd) :
    Calls Tryd.prog 40 #[ndV n (.slice a n.parts.length c)] w fun e w' => e = .returned (.bool b) ∧ Below w.heap.size w w' := by
  unfold Td.Bad at hb
  have HBd : Hid (b = true ↔ ¬ ((n.kind = 1 ∧ n.link.data.toList ≠ []) ∨ (1 < n.kind ∧ n.size ≠ 0) ∨ (n.kind = 2 ∧ (n.parts.length ≠ 1 ∨ n.link.data.toList ≠ [])) ∨ (n.kind = 3 ∧ (n.parts.length ≠ 0 ∨ n.link.data.toList = [])))) := hb
  have HF : ∀ {P : Prop}, (b = true ↔ ¬ P) → P → b = false := fun h p => by cases b with | false => rfl | true => exact absurd p (h.1 rfl)
  obtain ⟨W1, hW1⟩ : ∃ W1, W1 = w.alloc (.cells (ndC n (.slice a n.parts.length c)).toArray 32) := ⟨_, rfl⟩
  have HB : Hid (Below w.heap.size w W1) := by rw [hW1]; exact (Below.refl _ w).alloc (Nat.le_refl _) _
  have HM1 : Hid (W1.heap[w.heap.size]? = some (.cells (ndC n (.slice a n.parts.length c)).toArray 32 (0, 0))) := by rw [hW1]; exact heap_alloc_new w _
  clear hb
  generalize n.parts.length = P at *
  obtain ⟨name, kind, mode, time, size, parts, link⟩ := n
  dsimp only at *
  go_enter Tryd.func40, Tryd.ntmps40
  go_upto_region 1 with fail
  rw [← hW1]
  obtain ⟨m0, m1, m2, m3, m4, m5, m6⟩ := seven_at HM1.out
  clear hW1 HM1 m0 m2 m3
  obtain ⟨bk, hbk⟩ : ∃ bk, bk = w.heap.size := ⟨_, rfl⟩
  rw [← hbk] at m1 m4 m5 m6 ⊢
  clear hbk
  obtain rfl | rfl | rfl : kind = 1 ∨ kind = 2 ∨ kind = 3 := by omega
  · by_cases hl : link.data.toList = []
    · obtain rfl := of_data hl
      have HR : Hid (b = true) := HBd.out.2 (by simp)
      clear HBd HF
      go_wp2_with fail
      go_ret
      exact ⟨by rw [HR.out]; rfl, HB.out⟩
    · have e1 : (link.toList == []) = false := data_ne hl
      have HR : Hid (b = false) := HF HBd.out (.inl ⟨rfl, hl⟩)
      clear HBd HF
      go_wp2_with fail
      go_ret
      exact ⟨by rw [HR.out]; rfl, HB.out⟩
  · by_cases hz : size = 0
    · subst hz
      by_cases hp : P = 1
      · subst hp
        by_cases hl : link.data.toList = []
        · obtain rfl := of_data hl
          have HR : Hid (b = true) := HBd.out.2 (by simp)
          clear HBd HF
          go_wp2_with fail
          go_ret
          exact ⟨by rw [HR.out]; rfl, HB.out⟩
        · have e1 : (link.toList == []) = false := data_ne hl
          have HR : Hid (b = false) := HF HBd.out (.inr (.inr (.inl ⟨rfl, .inr hl⟩)))
          clear HBd HF
          go_wp2_with fail
          go_ret
          exact ⟨by rw [HR.out]; rfl, HB.out⟩
      · have gp : ((P : Int) == 1) = false := by rw [beq_eq_false_iff_ne]; omega
        have HR : Hid (b = false) := HF HBd.out (.inr (.inr (.inl ⟨rfl, .inl hp⟩)))
        clear HBd HF hp
        go_wp2_with fail
        go_ret
        exact ⟨by rw [HR.out]; rfl, HB.out⟩
    · have gz : (size == 0) = false := by rw [beq_eq_false_iff_ne]; exact hz
      have HR : Hid (b = false) := HF HBd.out (.inr (.inl ⟨by omega, hz⟩))
      clear HBd HF hz
      go_wp2_with fail
      go_ret
      exact ⟨by rw [HR.out]; rfl, HB.out⟩
  · by_cases hz : size = 0
    · subst hz
      by_cases hp : P = 0
      · subst hp
        by_cases hl : link.data.toList = []
        · obtain rfl := of_data hl
          have HR : Hid (b = false) := HF HBd.out (.inr (.inr (.inr ⟨rfl, .inr hl⟩)))
          clear HBd HF
          go_wp2_with fail
          go_ret
          exact ⟨by rw [HR.out]; rfl, HB.out⟩
        · have e1 : (link.toList == []) = false := data_ne hl
          have HR : Hid (b = true) := HBd.out.2 (by simp [hl])
          clear HBd HF
          go_wp2_with fail
          go_ret
          exact ⟨by rw [HR.out]; rfl, HB.out⟩
      · have gp : ((P : Int) == 0) = false := by rw [beq_eq_false_iff_ne]; omega
        have HR : Hid (b = false) := HF HBd.out (.inr (.inr (.inr ⟨rfl, .inl hp⟩)))
        clear HBd HF hp
        go_wp2_with fail
        go_ret
        exact ⟨by rw [HR.out]; rfl, HB.out⟩
    · have gz : (size == 0) = false := by rw [beq_eq_false_iff_ne]; exact hz
      have HR : Hid (b = false) := HF HBd.out (.inr (.inl ⟨by omega, hz⟩))
      clear HBd HF hz
      go_wp2_with fail
      go_ret
      exact ⟨by rw [HR.out]; rfl, HB.out⟩

set_option maxHeartbeats 2000000 in
set_option maxRecDepth 10000 in
theorem cnode_any (n : Nod) (a : Option Addr) (c : Nat) (w : World) (hn : n.name.size ≤ 9223372036854775807) (hl : n.link.size ≤ 9223372036854775807) (hT : Tabs w) :
    Calls Tryd.prog 24 #[ndV n (.slice a n.parts.length c)] w fun e w' => e = .returned (.int .i64 (Td.nErr n.nd)) ∧ Below w.heap.size w w' := by
  have HT : Hid (Td.nErr n.nd = if Nn.nm n.name.data.toList ≠ 0 then Nn.nm n.name.data.toList
    else if n.mode < 0 ∨ 511 < n.mode ∨ n.size < 0 ∨ 4096 < n.size ∨ 300 < n.parts.length then 1
    else if n.kind < 1 ∨ 3 < n.kind then 5
    else if (n.kind = 1 ∧ n.link.data.toList ≠ []) ∨ (1 < n.kind ∧ n.size ≠ 0) ∨ (n.kind = 2 ∧ (n.parts.length ≠ 1 ∨ n.link.data.toList ≠ [])) ∨ (n.kind = 3 ∧ (n.parts.length ≠ 0 ∨ n.link.data.toList = [])) then 4
    else if 1024 < n.link.data.toList.length then 2 else 0) := rfl
  obtain ⟨W1, hW1⟩ : ∃ W1, W1 = w.alloc (.cells (ndC n (.slice a n.parts.length c)).toArray 32) := ⟨_, rfl⟩
  have HB1 : Hid (Below w.heap.size w W1) := by rw [hW1]; exact (Below.refl _ w).alloc (Nat.le_refl _) _
  have HM1 : Hid (W1.heap[w.heap.size]? = some (.cells (ndC n (.slice a n.parts.length c)).toArray 32 (0, 0))) := by rw [hW1]; exact heap_alloc_new w _
  have hr := check_any n.name W1 hn (hT.below HB1.out)
  have HAs : Hid (∀ b W, (n.kind = 1 ∨ n.kind = 2 ∨ n.kind = 3) → (b = true ↔ ¬ Td.Bad n.nd) → Calls Tryd.prog 40 #[ndV n (.slice a n.parts.length c)] W fun e w' => e = .returned (.bool b) ∧ Below W.heap.size W w') := fun b W => asks_any n a c b W
  have HBd : Hid (Td.Bad n.nd ↔ ((n.kind = 1 ∧ n.link.data.toList ≠ []) ∨ (1 < n.kind ∧ n.size ≠ 0) ∨ (n.kind = 2 ∧ (n.parts.length ≠ 1 ∨ n.link.data.toList ≠ [])) ∨ (n.kind = 3 ∧ (n.parts.length ≠ 0 ∨ n.link.data.toList = [])))) := Iff.rfl
  generalize Td.nErr n.nd = R at *
  generalize Td.Bad n.nd = BAD at *
  generalize Nn.nm n.name.data.toList = E at *
  generalize n.parts.length = P at *
  obtain ⟨name, kind, mode, time, size, parts, link⟩ := n
  dsimp only at *
  clear hT
  go_enter Tryd.func24, Tryd.ntmps24
  go_upto_region 1 with fail
  rw [← hW1]
  obtain ⟨m0, _⟩ := seven_at HM1.out
  clear hW1
  go_wp2_with fail
  refine hr.mono ?_
  rintro e w2 ⟨rfl, b2⟩
  have HB : Hid (Below w.heap.size w w2) := HB1.out.trans (b2.mono HB1.out.size)
  obtain ⟨m0, m1, m2, m3, m4, m5, m6⟩ := seven_at ((b2.block _ (Array.getElem?_eq_some_iff.1 HM1.out).1).trans HM1.out)
  have HM2 : Hid (w2.heap[w.heap.size]? = some (.cells #[.string name, .int .i64 kind, .int .i64 mode, .int .i64 time, .int .i64 size, .slice a P c, .string link] 32 (0, 0))) := (b2.block _ (Array.getElem?_eq_some_iff.1 HM1.out).1).trans HM1.out
  clear HB1 HM1 hr b2 hn
  obtain ⟨bk, hbk⟩ : ∃ bk, bk = w.heap.size := ⟨_, rfl⟩
  rw [← hbk] at HM2 m0 m1 m2 m3 m4 m5 m6 ⊢
  clear hbk
  by_cases hE : ¬ E = 0
  · have hqn : (E != 0) = true := by rw [bne_iff_ne]; exact hE
    have HR : Hid (R = E) := by
      have := HT.out
      rwa [if_pos hE] at this
    clear HT HAs HBd
    go_wp2_with fail
    go_ret
    exact ⟨by rw [HR.out]; rfl, HB.out⟩
  obtain rfl := Decidable.not_not.mp hE
  clear hE
  rw [if_neg (by simp)] at HT
  by_cases h1 : ¬ (0 ≤ mode ∧ mode ≤ 511)
  · have HR : Hid (R = 1) := by
      have := HT.out
      rwa [if_pos (by omega)] at this
    have k1 : decide (0 ≤ mode ∧ mode ≤ 511) = false := decide_eq_false h1
    clear HT HAs HBd h1
    go_wp2_with (go_at_call 38; refine (upto_any mode 511 false _ k1).mono ?_; rintro e w3 ⟨rfl, rfl⟩)
    go_ret
    exact ⟨by rw [HR.out]; rfl, HB.out⟩
  replace h1 := Decidable.not_not.mp h1
  have k1 : decide (0 ≤ mode ∧ mode ≤ 511) = true := decide_eq_true h1
  by_cases h2 : ¬ (0 ≤ size ∧ size ≤ 4096)
  · have HR : Hid (R = 1) := by
      have := HT.out
      rwa [if_pos (by omega)] at this
    have k2 : decide (0 ≤ size ∧ size ≤ 4096) = false := decide_eq_false h2
    clear HT HAs HBd h1 h2
    go_wp2_with (first | (go_at_call 38; with_reducible refine (upto_any mode 511 true _ k1).mono ?_; rintro e w3 ⟨rfl, hw⟩; obtain rfl := hw.symm) | (go_at_call 38; with_reducible refine (upto_any size 4096 false _ k2).mono ?_; rintro e w3 ⟨rfl, hw⟩; obtain rfl := hw.symm))
    go_ret
    exact ⟨by rw [HR.out]; rfl, HB.out⟩
  replace h2 := Decidable.not_not.mp h2
  have k2 : decide (0 ≤ size ∧ size ≤ 4096) = true := decide_eq_true h2
  by_cases h5 : 300 < P
  · have g5 : (300 : Int) < (P : Int) := by omega
    have HR : Hid (R = 1) := by
      have := HT.out
      rwa [if_pos (by omega)] at this
    clear HT HAs HBd h1 h2
    go_wp2_with (first | (go_at_call 38; with_reducible refine (upto_any mode 511 true _ k1).mono ?_; rintro e w3 ⟨rfl, hw⟩; obtain rfl := hw.symm) | (go_at_call 38; with_reducible refine (upto_any size 4096 true _ k2).mono ?_; rintro e w3 ⟨rfl, hw⟩; obtain rfl := hw.symm))
    go_ret
    exact ⟨by rw [HR.out]; rfl, HB.out⟩
  have g5 : ¬ (300 : Int) < (P : Int) := by omega
  rw [if_neg (by omega)] at HT
  by_cases h3 : ¬ (1 ≤ kind ∧ kind ≤ 3)
  · have HR : Hid (R = 5) := by
      have := HT.out
      rwa [if_pos (by omega)] at this
    have k3 : decide (1 ≤ kind ∧ kind ≤ 3) = false := decide_eq_false h3
    clear HT HAs HBd h1 h2 h3
    go_wp2_with (first | (go_at_call 38; with_reducible refine (upto_any mode 511 true _ k1).mono ?_; rintro e w3 ⟨rfl, hw⟩; obtain rfl := hw.symm) | (go_at_call 38; with_reducible refine (upto_any size 4096 true _ k2).mono ?_; rintro e w3 ⟨rfl, hw⟩; obtain rfl := hw.symm) | (go_at_call 39; refine (iskind_any kind false _ k3).mono ?_; rintro e w3 ⟨rfl, hw⟩; obtain rfl := hw.symm))
    go_ret
    exact ⟨by rw [HR.out]; rfl, HB.out⟩
  replace h3 := Decidable.not_not.mp h3
  have k3 : decide (1 ≤ kind ∧ kind ≤ 3) = true := decide_eq_true h3
  rw [if_neg (by omega)] at HT
  have hk : kind = 1 ∨ kind = 2 ∨ kind = 3 := by omega
  by_cases hb : BAD
  · have HR : Hid (R = 4) := by
      have := HT.out
      rwa [if_pos (HBd.out.1 hb)] at this
    have has := HAs.out false w2 hk (by simp [hb])
    clear HT HAs HBd h1 h2 h3 hk
    go_wp2_with (first | (go_at_call 38; with_reducible refine (upto_any mode 511 true _ k1).mono ?_; rintro e w3 ⟨rfl, hw⟩; obtain rfl := hw.symm) | (go_at_call 38; with_reducible refine (upto_any size 4096 true _ k2).mono ?_; rintro e w3 ⟨rfl, hw⟩; obtain rfl := hw.symm) | (go_at_call 39; refine (iskind_any kind true _ k3).mono ?_; rintro e w3 ⟨rfl, hw⟩; obtain rfl := hw.symm))
    refine has.mono ?_
    rintro e w4 ⟨rfl, b4⟩
    have HB4 : Hid (Below w.heap.size w w4) := HB.out.trans (b4.mono HB.out.size)
    clear has b4
    go_wp2_with fail
    go_ret
    exact ⟨by rw [HR.out]; rfl, HB4.out⟩
  · have HR : Hid (R = if 1024 < link.size then 2 else 0) := by
      have := HT.out
      rwa [if_neg (fun q => hb (HBd.out.2 q)), ← Lib.size_eq] at this
    have has := HAs.out true w2 hk (by simp [hb])
    clear HT HAs HBd h1 h2 h3 hk
    go_wp2_with (first | (go_at_call 38; with_reducible refine (upto_any mode 511 true _ k1).mono ?_; rintro e w3 ⟨rfl, hw⟩; obtain rfl := hw.symm) | (go_at_call 38; with_reducible refine (upto_any size 4096 true _ k2).mono ?_; rintro e w3 ⟨rfl, hw⟩; obtain rfl := hw.symm) | (go_at_call 39; refine (iskind_any kind true _ k3).mono ?_; rintro e w3 ⟨rfl, hw⟩; obtain rfl := hw.symm))
    refine has.mono ?_
    rintro e w4 ⟨rfl, b4⟩
    have HB4 : Hid (Below w.heap.size w w4) := HB.out.trans (b4.mono HB.out.size)
    obtain ⟨_, _, _, _, _, _, n6⟩ := seven_at ((b4.block _ (Array.getElem?_eq_some_iff.1 HM2.out).1).trans HM2.out)
    clear has b4 m0 m1 m2 m3 m4 m5 m6 HM2
    by_cases hL : 1024 < link.size
    · have gL : (1024 : Int) < (link.size : Int) := by omega
      rw [if_pos hL] at HR
      go_wp2_with fail
      go_ret
      exact ⟨by rw [HR.out]; rfl, HB4.out⟩
    · have gL : ¬ (1024 : Int) < (link.size : Int) := by omega
      rw [if_neg hL] at HR
      go_wp2_with fail
      go_ret
      exact ⟨by rw [HR.out]; rfl, HB4.out⟩

theorem tg_irr : ∀ x : List UInt8, Op.bytesLess x x = false
  | [] => rfl
  | a :: x => by rw [Op.bytesLess, tg_irr x]; simp
theorem tg_tri : ∀ x y : List UInt8, Op.bytesLess x y = true → Op.bytesLess y x = false
  | [], [], _ => rfl
  | [], _ :: _, _ => rfl
  | _ :: _, [], h => by cases h
  | a :: x, b :: y, h => by
    rw [Op.bytesLess, Bool.or_eq_true, Bool.and_eq_true] at h
    rw [Op.bytesLess]
    rcases h with h | ⟨h1, h2⟩
    · have q : a < b := of_decide_eq_true h
      have q1 : a.toNat < b.toNat := q
      have q2 : ¬ b < a := fun k => by have k1 : b.toNat < a.toNat := k; omega
      have q3 : (b == a) = false := beq_eq_false_iff_ne.2 fun k => by rw [k] at q1; omega
      rw [q3, decide_eq_false q2]
      rfl
    · obtain rfl : a = b := eq_of_beq h1
      rw [tg_tri x y h2]
      simp
theorem tg_less {s t : ByteArray} (h : Op.bytesLess t.toList s.toList = true) : Op.bytesLess s.toList t.toList = false ∧ (s.toList == t.toList) = false :=
  ⟨tg_tri _ _ h, beq_eq_false_iff_ne.2 fun e => by rw [e, tg_irr] at h; cases h⟩
theorem tg_tot : ∀ x y : List UInt8, Op.bytesLess y x = false → x = y ∨ Op.bytesLess x y = true
  | [], [], _ => .inl rfl
  | [], _ :: _, _ => .inr rfl
  | _ :: _, [], h => by cases h
  | a :: x, b :: y, h => by
    rw [Op.bytesLess, Bool.or_eq_false_iff, Bool.and_eq_false_iff] at h
    rw [Op.bytesLess]
    have q : ¬ b < a := of_decide_eq_false h.1
    by_cases e : a = b
    · subst e
      rcases h.2 with k | k
      · simp at k
      · rcases tg_tot x y k with e | e
        · exact .inl (by rw [e])
        · exact .inr (by rw [e]; simp)
    · refine .inr ?_
      have q1 : ¬ b.toNat < a.toNat := q
      have q2 : a.toNat ≠ b.toNat := fun k => e (UInt8.toNat_inj.1 k)
      have q3 : a < b := show a.toNat < b.toNat by omega
      rw [decide_eq_true q3]
      rfl
theorem tg_more {s t : ByteArray} (h : Op.bytesLess t.toList s.toList = false) : Op.bytesLess s.toList t.toList = true ∨ (Op.bytesLess s.toList t.toList = false ∧ (s.toList == t.toList) = true) := by
  rcases tg_tot _ _ h with e | e
  · exact .inr ⟨by rw [e, tg_irr], by rw [e]; simp⟩
  · exact .inl e

set_option maxHeartbeats 2000000 in
set_option maxRecDepth 10000 in
theorem tcheck_any (v : Value) (l : List Nod) (w : World) (h : Nds w v l) (hl : l.length ≤ 9223372036854775807) (hT : Tabs w) :
    Calls Tryd.prog 13 #[v] w fun e w' => e = .returned (.int .i64 (Td.check (nds l))) ∧ Below w.heap.size w w' := by
  obtain ⟨a, c, rfl⟩ := h.slice
  have HX : Hid (Nds w (.slice a l.length c) l) := h
  have HS0 : Hid (Tabs w) := hT
  have HT : Hid (Td.check (nds l) = if 64 < l.length then 2 else Td.ckB none (nds l)) := by show _ = _; rw [← nds_length l]; rfl
  generalize Td.check (nds l) = R at *
  obtain ⟨N, hN⟩ : ∃ N, N = l.length := ⟨_, rfl⟩
  have HN : Hid (N = l.length) := hN
  rw [← hN] at HX HT hl ⊢
  clear h hT hN
  by_cases h64 : 64 < N
  · have HR : Hid (R = 2) := by
      have := HT.out
      rwa [if_pos h64] at this
    have g : (64 : Int) < (N : Int) := by omega
    clear HT
    go_enter Tryd.func13, Tryd.ntmps13
    go_wp2_with fail
    go_ret
    exact ⟨by rw [HR.out]; rfl, Below.refl _ _⟩
  have HC : Hid (Td.ckB (prv l 0) (nds (l.drop 0)) = R) := by
    have := HT.out
    rw [if_neg h64] at this
    exact this.symm
  have g : ¬ (64 : Int) < (N : Int) := by omega
  clear HT
  go_enter Tryd.func13, Tryd.ntmps13
  go_wp2_with fail
  go_loopw [11] (fun x wr => ∃ k : Nat, k ≤ N ∧ x = .int .i64 k ∧ Hid (Td.ckB (prv l k) (nds (l.drop k)) = R) ∧ Hid (Below w.heap.size w wr)) (fun x _ => N - (intOf x).toNat)
  case atStart => exact ⟨0, by omega, rfl, HC, Below.refl _ _⟩
  case round =>
    clear HC
    obtain ⟨k, hk, rfl, HC, HB⟩ := hrel
    by_cases hlt : k < N
    · have hkl : k < l.length := by rw [← HN.out]; exact hlt
      obtain ⟨bk, o, cs, rfl, hbk, hcl, ⟨v, rfl, hPs, hok⟩, hcell⟩ := (HX.out.below HB.out).get k l[k] (List.getElem?_eq_getElem hkl)
      have hSt := HC.out
      rw [nds_drop l k hkl, Td.ckB_cons] at hSt
      have HSt : Hid ((if Td.nErr l[k].nd ≠ 0 then Td.nErr l[k].nd else if Td.low (prv l k) l[k].name.data.toList = true then 4 else Td.ckB (some l[k].name.data.toList) (nds (l.drop (k + 1)))) = R) := hSt
      have HP1 : Hid (prv l (k + 1) = some l[k].name.data.toList) := by show _ = _; rw [prv, List.getElem?_eq_getElem hkl]; rfl
      have HPk : Hid (∀ j, k = j + 1 → ∃ t : ByteArray, prv l k = some t.data.toList ∧ wr.cell? ⟨bk, o + j * 7, none⟩ = some (.string t)) := fun j hj => by
        subst hj
        obtain ⟨bk', o', cs', e', _, _, ⟨v', rfl, _⟩, hc'⟩ := (HX.out.below HB.out).get j l[j] (List.getElem?_eq_getElem (by omega))
        cases e'
        exact ⟨l[j].name, by rw [prv, List.getElem?_eq_getElem (by omega)]; rfl, hc' 0 _ rfl⟩
      obtain ⟨av, cv, rfl, _⟩ := hPs.slice
      obtain ⟨W1, hW1⟩ : ∃ W1, W1 = wr.alloc (.cells (ndC l[k] (.slice av l[k].parts.length cv)).toArray 32) := ⟨_, rfl⟩
      have hB1 : Below wr.heap.size wr W1 := by rw [hW1]; exact (Below.refl _ wr).alloc (Nat.le_refl _) _
      have HB1 : Hid (Below w.heap.size w W1) := HB.out.trans (hB1.mono HB.out.size)
      have HM1 : Hid (W1.heap[wr.heap.size]? = some (.cells (ndC l[k] (.slice av l[k].parts.length cv)).toArray 32 (0, 0))) := by rw [hW1]; exact heap_alloc_new wr _
      have hne := cnode_any l[k] av cv W1 hok.name hok.link (HS0.out.below HB1.out)
      have c0 : wr.cell? ⟨bk, o + k * 7, none⟩ = some (.string l[k].name) := hcell 0 _ rfl
      have c1 := hcell 1 _ rfl
      have c2 := hcell 2 _ rfl
      have c3 := hcell 3 _ rfl
      have c4 := hcell 4 _ rfl
      have c5 := hcell 5 _ rfl
      have c6 := hcell 6 _ rfl
      generalize Td.nErr l[k].nd = E at *
      generalize l[k] = n at *
      generalize n.parts.length = np at *
      clear hcell hPs hok hcl HC hSt
      obtain ⟨name, kind, mode, time, size, parts, link⟩ := n
      dsimp only at *
      go_upto_region 6 with fail
      rw [← hW1]
      obtain ⟨b7, hb7⟩ : ∃ b7, b7 = wr.heap.size := ⟨_, rfl⟩
      rw [← hb7] at HM1 ⊢
      obtain ⟨m0, m1, m2, m3, m4, m5, m6⟩ := seven_at HM1.out
      clear hW1 c0 c1 c2 c3 c4 c5 c6 hb7
      go_wp2_with fail
      refine hne.mono ?_
      rintro e w3 ⟨rfl, b3⟩
      have HB3 : Hid (Below w.heap.size w w3) := HB1.out.trans (b3.mono HB1.out.size)
      have HP3 : Hid (∀ j, k = j + 1 → ∃ t : ByteArray, prv l k = some t.data.toList ∧ w3.cell? ⟨bk, o + j * 7, none⟩ = some (.string t)) := fun j hj => by
        obtain ⟨t, p1, p2⟩ := HPk.out j hj
        exact ⟨t, p1, (Below.cell (hB1.trans (b3.mono hB1.size)) (p := ⟨bk, o + j * 7, none⟩) hbk).trans p2⟩
      obtain ⟨n0, _⟩ := seven_at ((b3.block _ (Array.getElem?_eq_some_iff.1 HM1.out).1).trans HM1.out)
      clear hne b3 m0 m1 m2 m3 m4 m5 m6 HPk HM1 hB1 HB1
      by_cases hE : E = 0
      · subst hE
        rw [if_neg (by simp)] at HSt
        go_wp2_with fail
        rcases Nat.eq_zero_or_pos k with hk0 | hk0
        · have hd : decide ((0 : Int) < (k : Int)) = false := decide_eq_false (by omega)
          have HS2 : Hid (Td.ckB (prv l (k + 1)) (nds (l.drop (k + 1))) = R) := by
            have := HSt.out
            rw [hk0, prv, Td.low, if_neg (by simp)] at this
            show _ = _
            rw [HP1.out, hk0]
            exact this
          clear HSt HP3 HP1
          go_quiet (fail)
          go_wp2_with fail
          go_roundw
          case measure => simp only [intOf]; omega
          case rel => exact ⟨k + 1, by omega, by go_num, HS2, below_drewN HB3.out _⟩
        · obtain ⟨j, rfl⟩ : ∃ j, k = j + 1 := ⟨k - 1, by omega⟩
          obtain ⟨t, p1, p2⟩ := HP3.out j rfl
          have hd : decide ((0 : Int) < ((j + 1 : Nat) : Int)) = true := decide_eq_true (by omega)
          have hj : j < N := by omega
          have HL : Hid ((if (!Op.bytesLess t.data.toList name.data.toList) = true then 4 else Td.ckB (prv l (j + 1 + 1)) (nds (l.drop (j + 1 + 1)))) = R) := by
            have := HSt.out
            rw [p1, Td.low] at this
            rw [HP1.out]
            exact this
          clear HSt HP3 HP1 p1
          rw [← Lib.toList_data, ← Lib.toList_data] at HL
          cases hbl : Op.bytesLess t.toList name.toList with
          | true =>
            obtain ⟨x1, x2⟩ := tg_less hbl
            have HS2 : Hid (Td.ckB (prv l (j + 1 + 1)) (nds (l.drop (j + 1 + 1))) = R) := by
              have := HL.out
              rwa [hbl, if_neg (by simp)] at this
            clear HL hbl
            go_quiet (fail)
            go_wp2_with fail
            go_roundw
            case measure => simp only [intOf]; omega
            case rel => exact ⟨j + 1 + 1, by omega, by go_num, HS2, below_drewN HB3.out _⟩
          | false =>
            have HR : Hid (R = 4) := by
              have := HL.out
              rw [hbl, if_pos (by rfl)] at this
              exact this.symm
            have hz := tg_more hbl
            clear HL hbl
            rcases hz with hz | ⟨x1, x2⟩
            · go_quiet (fail)
              go_wp2_with fail
              go_ret
              exact ⟨by rw [HR.out]; rfl, below_drewN HB3.out _⟩
            · go_quiet (fail)
              go_wp2_with fail
              go_ret
              exact ⟨by rw [HR.out]; rfl, below_drewN HB3.out _⟩
      · have hqn : (E != 0) = true := by rw [bne_iff_ne]; exact hE
        have HR : Hid (R = E) := by
          have := HSt.out
          rw [if_pos hE] at this
          exact this.symm
        clear HSt
        go_wp2_with fail
        go_ret
        exact ⟨by rw [HR.out]; rfl, HB3.out⟩
    · obtain rfl : k = N := by omega
      have HE : Hid (0 = R) := by
        have := HC.out
        rwa [List.drop_eq_nil_of_le (by rw [HN.out]; exact Nat.le_refl _)] at this
      clear HC
      go_wp2_with fail
      go_ret
      exact ⟨by rw [← HE.out]; rfl, HB.out⟩

theorem find_bad {l : List Td.Nd} {s : List UInt8} (h : Td.check l ≠ 0) : Td.find l s = (0, Td.check l) := by unfold Td.find; rw [if_pos h]
theorem find_ok {l : List Td.Nd} {s : List UInt8} (h : Td.check l = 0) : (ixOf l s = -1 ∧ Td.find l s = (0, 9)) ∨ ∃ k : Nat, ixOf l s = k ∧ Td.find l s = (k, 0) := by
  unfold Td.find ixOf
  rw [if_neg (fun q => q h)]
  cases l.findIdx? fun n => n.name == s with
  | none => exact .inl ⟨rfl, rfl⟩
  | some k => exact .inr ⟨k, rfl, rfl⟩

set_option maxHeartbeats 1000000 in
set_option maxRecDepth 10000 in
theorem tfind1_any (n : Nod) (v : Value) (b : Nat) (t : ByteArray) (w : World) (hv : ∃ a m c, v = .slice a m c) (hb : w.cell? ⟨b, 0, none⟩ = some (.string t)) :
    Calls Tryd.prog 23 #[ndV n v, .pointer (some ⟨b, 0, none⟩)] w fun e w' => e = .returned (.bool (n.name.toList == t.toList)) ∧ Below w.heap.size w w' := by
  obtain ⟨a, m, c, rfl⟩ := hv
  obtain ⟨W1, hW1⟩ : ∃ W1, W1 = w.alloc (.cells (ndC n (.slice a m c)).toArray 32) := ⟨_, rfl⟩
  have HB1 : Hid (Below w.heap.size w W1) := by rw [hW1]; exact (Below.refl _ w).alloc (Nat.le_refl _) _
  have hM1 : W1.heap[w.heap.size]? = some (.cells (ndC n (.slice a m c)).toArray 32 (0, 0)) := by rw [hW1]; exact heap_alloc_new w _
  have hb1 : W1.cell? ⟨b, 0, none⟩ = some (.string t) := (Below.cell HB1.out (p := ⟨b, 0, none⟩) (World.block_lt_of_cell? w _ hb)).trans hb
  obtain ⟨name, kind, mode, time, size, parts, link⟩ := n
  obtain ⟨m0, _⟩ := seven_at hM1
  clear hM1
  go_enter Tryd.func23, Tryd.ntmps23
  go_upto_region 1 with fail
  rw [← hW1]
  clear hW1 hb
  go_wp2_with fail
  go_ret
  exact ⟨rfl, HB1.out⟩

set_option maxHeartbeats 2000000 in
set_option maxRecDepth 10000 in
theorem tindex_nodes (v : Value) (l : List Nod) (b : Nat) (t : ByteArray) (w : World) (h : Nds w v l) (hl : l.length ≤ 9223372036854775807) (hb : w.cell? ⟨b, 0, none⟩ = some (.string t)) :
    Calls Tryd.prog 11 #[v, .func (.func 23) #[] #[.pointer (some ⟨b, 0, none⟩)]] w fun e w' => e = .returned (.int .i64 (ixOf (nds l) t.data.toList)) ∧ Below w.heap.size w w' := by
  obtain ⟨a, c, rfl⟩ := h.slice
  have HX : Hid (Nds w (.slice a l.length c) l) := h
  have HBt : Hid (w.cell? ⟨b, 0, none⟩ = some (.string t)) := hb
  obtain ⟨R, hR⟩ : ∃ R, ixOf (nds l) t.data.toList = R := ⟨_, rfl⟩
  have HR : Hid (ixOf (nds l) t.data.toList = R) := hR
  rw [hR]
  obtain ⟨N, hN⟩ : ∃ N, N = l.length := ⟨_, rfl⟩
  have HN : Hid (N = l.length) := hN
  rw [← hN] at HX hl ⊢
  clear h hN hR hb
  go_enter Tryd.func11, Tryd.ntmps11
  go_wp2_with fail
  go_loopw [8] (fun i wr => ∃ k : Nat, k ≤ N ∧ i = .int .i64 k ∧ Hid (∀ j (hj : j < k) (hl : j < l.length), (l[j].name.data.toList == t.data.toList) = false) ∧ Hid (Below w.heap.size w wr)) (fun i _ => N - (intOf i).toNat)
  case atStart => exact ⟨0, by omega, rfl, fun j hj _ => by omega, Below.refl _ _⟩
  case round =>
    obtain ⟨k, hk, rfl, HF, HB⟩ := hrel
    by_cases hlt : k < N
    · have hkl : k < l.length := by rw [← HN.out]; exact hlt
      obtain ⟨bk, o, cs, rfl, hbk, hcl, ⟨v, rfl, hPs, hok⟩, hcell⟩ := (HX.out.below HB.out).get k l[k] (List.getElem?_eq_getElem hkl)
      obtain ⟨av, cv, rfl, _⟩ := hPs.slice
      have hs1 := tfind1_any l[k] (.slice av l[k].parts.length cv) b t wr ⟨_, _, _, rfl⟩ ((Below.cell HB.out (p := ⟨b, 0, none⟩) (World.block_lt_of_cell? w _ HBt.out)).trans HBt.out)
      have c0 : wr.cell? ⟨bk, o + k * 7, none⟩ = some (.string l[k].name) := hcell 0 _ rfl
      have c1 := hcell 1 _ rfl
      have c2 := hcell 2 _ rfl
      have c3 := hcell 3 _ rfl
      have c4 := hcell 4 _ rfl
      have c5 := hcell 5 _ rfl
      have c6 := hcell 6 _ rfl
      have HY : Hid ((l[k].name.toList == t.toList) = true → R = k) := fun q => by
        rw [Lib.toList_data, Lib.toList_data] at q
        rw [← HR.out]
        exact findIdx_at (by rw [nds_length]; exact hkl) (fun j hj => by
          have := HF.out j hj (by omega)
          simpa [nds, Nod.nd] using this) (by simpa [nds, Nod.nd] using q)
      have HNo : Hid ((l[k].name.toList == t.toList) = false → ∀ j (hj : j < k + 1) (hl : j < l.length), (l[j].name.data.toList == t.data.toList) = false) := fun q j hj hjl => by
        rw [Lib.toList_data, Lib.toList_data] at q
        rcases Nat.lt_or_ge j k with h1 | h1
        · exact HF.out j h1 hjl
        · obtain rfl : j = k := by omega
          exact q
      generalize l[k] = n at *
      generalize n.parts.length = np at *
      clear hcell hPs hok hcl HF
      obtain ⟨name, kind, mode, time, size, parts, link⟩ := n
      dsimp only at *
      go_wp2_with fail
      refine hs1.mono ?_
      rintro e w3 ⟨rfl, b3⟩
      have HB3 : Hid (Below w.heap.size w w3) := HB.out.trans (b3.mono HB.out.size)
      clear hs1 b3 c0 c1 c2 c3 c4 c5 c6
      cases hq : (name.toList == t.toList) with
      | true =>
        have HE := HY.out hq
        clear HY HNo
        go_wp2_with fail
        go_ret
        exact ⟨by rw [HE]; rfl, HB3.out⟩
      | false =>
        have HF2 : Hid (∀ j (hj : j < k + 1) (hl : j < l.length), (l[j].name.data.toList == t.data.toList) = false) := HNo.out hq
        clear HY HNo
        go_wp2_with fail
        go_roundw
        case measure => simp only [intOf]; omega
        case rel => exact ⟨k + 1, by omega, by go_num, HF2, HB3⟩
    · obtain rfl : k = N := by omega
      have HE : Hid (R = -1) := by
        show _ = _
        rw [← HR.out]
        refine findIdx_none fun n hn => ?_
        obtain ⟨m, hm, rfl⟩ := List.mem_map.1 hn
        obtain ⟨j, hj, rfl⟩ := List.getElem_of_mem hm
        exact HF.out j (by rw [HN.out]; exact hj) hj
      clear HF
      go_wp2_with fail
      go_ret
      exact ⟨by rw [HE.out]; rfl, HB.out⟩

set_option maxRecDepth 8000 in
set_option maxHeartbeats 2000000 in
theorem tfind_any (v : Value) (l : List Nod) (s : ByteArray) (w : World) (h : Nds w v l) (hl : l.length ≤ 9223372036854775807) (hT : Tabs w) :
    Calls Tryd.prog 10 #[v, .string s] w fun e w' => e = .returned (.tuple #[.int .i64 (Td.find (nds l) s.data.toList).1, .int .i64 (Td.find (nds l) s.data.toList).2]) ∧ Below w.heap.size w w' := by
  have HX : Hid (Nds w v l ∧ Tabs w) := ⟨h, hT⟩
  obtain ⟨W0, hW0⟩ : ∃ W0, W0 = w.alloc (.cells #[.string s] 9) := ⟨_, rfl⟩
  have HB0 : Hid (Below w.heap.size w W0) := by rw [hW0]; exact (Below.refl _ w).alloc (Nat.le_refl _) _
  have HCl : Hid (W0.cell? ⟨w.heap.size, 0, none⟩ = some (.string s)) := by rw [hW0]; show _ = _; simp
  have h1 := tcheck_any v l W0 (h.below HB0.out) hl (hT.below HB0.out)
  have h5 := fun W (hW : Below w.heap.size w W) (hb : W.cell? ⟨w.heap.size, 0, none⟩ = some (.string s)) => tindex_nodes v l w.heap.size s W (HX.out.1.below hW) hl hb
  have HBad : Hid (Td.check (nds l) ≠ 0 → Td.find (nds l) s.data.toList = (0, Td.check (nds l))) := find_bad
  have HOk : Hid (Td.check (nds l) = 0 → (ixOf (nds l) s.data.toList = -1 ∧ Td.find (nds l) s.data.toList = (0, 9)) ∨ ∃ k : Nat, ixOf (nds l) s.data.toList = k ∧ Td.find (nds l) s.data.toList = (k, 0)) := find_ok
  have hix : ixOf (nds l) s.data.toList ≤ 9223372036854775807 := ixOf_le _ _ (by rw [nds_length]; exact hl)
  generalize Td.check (nds l) = E at *
  generalize Td.find (nds l) s.data.toList = FD at *
  generalize ixOf (nds l) s.data.toList = IX at *
  obtain ⟨a, c, rfl⟩ := h.slice
  generalize l.length = N at *
  obtain ⟨b, hb⟩ : ∃ b, b = w.heap.size := ⟨_, rfl⟩
  have HBq : Hid (b = w.heap.size) := hb
  rw [← hb] at HCl
  clear hT h
  go_enter Tryd.func10, Tryd.ntmps10
  go_upto_region 1 with fail
  rw [← hW0, ← hb]
  clear hW0 hb
  go_wp2_with fail
  refine h1.mono ?_
  rintro e w1 ⟨rfl, b1⟩
  have HB1 : Hid (Below W0.heap.size W0 w1) := b1
  have HB1w : Hid (Below w.heap.size w w1) := HB0.out.trans (b1.mono HB0.out.size)
  clear h1 b1
  by_cases hE : E = 0
  · subst hE
    have k5 := h5 w1 HB1w.out (by rw [← HBq.out]; exact (Below.cell HB1.out (p := ⟨b, 0, none⟩) (World.block_lt_of_cell? W0 _ HCl.out)).trans HCl.out)
    rw [← HBq.out] at k5
    clear h5
    go_wp2_with fail
    refine k5.mono ?_
    rintro e w5 ⟨rfl, b5⟩
    have HB5w : Hid (Below w.heap.size w w5) := HB1w.out.trans (b5.mono HB1w.out.size)
    clear k5 b5
    rcases HOk.out (by first | rfl | trivial) with ⟨hi, hf⟩ | ⟨k, hi, hf⟩
    · subst hi
      subst hf
      clear HOk HBad
      go_wp2_with fail
      go_ret2
      exact ⟨rfl, HB5w.out⟩
    · subst hi
      subst hf
      have hq : ¬ ((k : Int) < 0) := by omega
      clear HOk HBad
      go_wp2_with fail
      go_ret2
      exact ⟨rfl, HB5w.out⟩
  · have hqe : (E != 0) = true := by rw [bne_iff_ne]; exact hE
    have hf := HBad.out hE
    subst hf
    clear HOk HBad h5
    go_wp2_with fail
    go_ret2
    exact ⟨rfl, HB1w.out⟩
end Go.Proofs.YtcgecafajgoeeaaDoor

namespace Go.Proofs.YtcgecafajgoeeaaDoor
open Go.RowKit
set_option maxRecDepth 4000

theorem tput9 (n : Nat) : (Nm.put n).length ≤ 9 := Nm.put_length n
/-- a block of another type is not that of a row of bytes -/
theorem tg_apart {base n G : Nat} {v : Value} {xs : List Value} {W : World} {cs : Array Value} {T : TypeId} {fr : Nat × Nat} (h : W.ownsRow base 5 1 v n xs) (hG : W.heap[G]? = some (.cells cs T fr)) (hT : T ≠ 5) : v.ownBlock ≠ some G := by
  intro e
  obtain ⟨cur, hh, _⟩ := own_block h e
  rw [hG, Option.some.injEq, Obj.cells.injEq] at hh
  exact hT hh.2.1
/-- what an appending answers: ys behind xs -/
def ApOut (base : Nat) (v : Value) (xs ys : List UInt8) (w : World) (e : Ending) (w' : World) : Prop :=
  ∃ v', e = .returned v' ∧ w'.ownsRow base 5 1 v' (xs ++ ys).length ((xs ++ ys).map B) ∧ Below base w w' ∧ Kept (fun k => v.ownBlock ≠ some k) w w'

set_option maxHeartbeats 1000000 in
theorem tnum_any (base : Nat) (v : Value) (xs : List UInt8) (n : Nat) (w : World) (hown : w.ownsRow base 5 1 v xs.length (xs.map B)) (hb : base ≤ w.heap.size) (hx : xs.length ≤ 1048576) (hn : n ≤ 1099511627776) :
    Calls Tryd.prog 18 #[v, .int .i64 n] w (ApOut base v xs (Nm.put n) w) := by
  unfold ApOut
  obtain ⟨i0, hi, hz0, hz1, hz2⟩ := info_of' info_u8
  obtain ⟨a, c, rfl⟩ := own_len hown
  have hp := num_put n w (by omega) (by omega)
  rw [Int.toNat_natCast] at hp
  have hl := Nm.dig_length_le n
  go_enter Tryd.func18, Tryd.ntmps18
  go_wp2_with fail
  refine hp.mono ?_
  rintro e w1 ⟨rfl, hb1⟩
  have hown1 := own_below hown hb1
  have hB1 : Below base w w1 := hb1.mono hb
  have hs1 := hB1.size
  have hpl : (Nm.put n).length ≤ 9 := tput9 n
  have HPS : Hid ((⟨(Nm.put n).toArray⟩ : ByteArray).size = (Nm.put n).length) := by show (Nm.put n).toArray.size = _; rw [List.size_toArray]
  have HK1 : Hid (Kept (fun k => (Value.slice a xs.length c).ownBlock ≠ some k) w w1) := Kept.of_below hb1
  clear hp hb1 hown
  obtain ⟨S, hS⟩ : ∃ S : ByteArray, (⟨(Nm.put n).toArray⟩ : ByteArray) = S := ⟨_, rfl⟩
  have HS : Hid (Lib.strCells S = (Nm.put n).map B ∧ S.size = (Nm.put n).length) := by rw [← hS]; exact ⟨rfl, HPS.out⟩
  have hSz : S.size ≤ 9 := by rw [HS.out.2]; exact hpl
  rw [hS]
  clear hS HPS hpl
  go_wp2_with (at_builtin; refine Lib.wpList_append_own_string _ rfl (.tmp 5) (.tmp 8) 41 9 rfl base 5 i0 Tryd.underlying41 Tryd.underlying9 hi hz0 hz1 hz2 _ _ _ rfl hown1 S rfl ?c3 ?c4 ?c5 ?_)
  case c3 => unfold maxLen; omega
  case c4 => omega
  case c5 => omega
  intro v1 w3 hown3 hgrow _
  have HO : Hid (w3.ownsRow base 5 1 v1 (xs ++ Nm.put n).length ((xs ++ Nm.put n).map B)) := by
    rw [HS.out.1, HS.out.2] at hown3
    rw [List.length_append, List.map_append]
    exact hown3
  have HB3 : Hid (Below base w w3) := hB1.grown hgrow (by omega) fun j hj => (hown1.lt j hj).1
  have HK3 : Hid (Kept (fun k => (Value.slice a xs.length c).ownBlock ≠ some k) w w3) := HK1.out.grown hgrow fun k hk hp => hp hk
  clear hown3 hgrow hown1 hB1
  go_wp2_with fail
  go_ret
  exact ⟨_, rfl, HO.out, HB3.out, HK3.out⟩

set_option maxHeartbeats 1000000 in
theorem ttext_any (base : Nat) (v : Value) (xs : List UInt8) (s : ByteArray) (w : World) (hown : w.ownsRow base 5 1 v xs.length (xs.map B)) (hb : base ≤ w.heap.size) (hx : xs.length ≤ 1048576) (hn : s.size ≤ 1024) :
    Calls Tryd.prog 32 #[v, .string s] w (ApOut base v xs (Nm.putT s.data.toList) w) := by
  unfold ApOut
  obtain ⟨i0, hi, hz0, hz1, hz2⟩ := info_of' info_u8
  obtain ⟨a, c, rfl⟩ := own_len hown
  have hp := putT_any s w hn
  have hpl : (Nm.putT s.data.toList).length ≤ 2050 := by have := Nm.putT_length s.data.toList; rw [← Lib.size_eq] at this; omega
  obtain ⟨S, hS⟩ : ∃ S : ByteArray, (⟨(Nm.putT s.data.toList).toArray⟩ : ByteArray) = S := ⟨_, rfl⟩
  have HS : Hid (Lib.strCells S = (Nm.putT s.data.toList).map B ∧ S.size = (Nm.putT s.data.toList).length) := by rw [← hS]; exact ⟨rfl, by show (Nm.putT s.data.toList).toArray.size = _; rw [List.size_toArray]⟩
  have hSz : S.size ≤ 2050 := by rw [HS.out.2]; exact hpl
  rw [hS] at hp
  clear hS hpl
  generalize Nm.putT s.data.toList = Y at *
  go_enter Tryd.func32, Tryd.ntmps32
  go_wp2_with fail
  refine hp.mono ?_
  rintro e w1 ⟨rfl, hb1⟩
  have hown1 := own_below hown hb1
  have hB1 : Below base w w1 := hb1.mono hb
  have hs1 := hB1.size
  have HK1 : Hid (Kept (fun k => (Value.slice a xs.length c).ownBlock ≠ some k) w w1) := Kept.of_below hb1
  clear hp hb1 hown
  go_wp2_with (at_builtin; refine Lib.wpList_append_own_string _ rfl (.tmp 12) (.tmp 13) 41 9 rfl base 5 i0 Tryd.underlying41 Tryd.underlying9 hi hz0 hz1 hz2 _ _ _ rfl hown1 S rfl ?c3 ?c4 ?c5 ?_)
  case c3 => unfold maxLen; omega
  case c4 => omega
  case c5 => omega
  intro v1 w3 hown3 hgrow _
  have HO : Hid (w3.ownsRow base 5 1 v1 (xs ++ Y).length ((xs ++ Y).map B)) := by
    rw [HS.out.1, HS.out.2] at hown3
    rw [List.length_append, List.map_append]
    exact hown3
  have HB3 : Hid (Below base w w3) := hB1.grown hgrow (by omega) fun j hj => (hown1.lt j hj).1
  have HK3 : Hid (Kept (fun k => (Value.slice a xs.length c).ownBlock ≠ some k) w w3) := HK1.out.grown hgrow fun k hk hp => hp hk
  clear hown3 hgrow hown1 hB1
  go_wp2_with fail
  go_ret
  exact ⟨_, rfl, HO.out, HB3.out, HK3.out⟩

/-- a node's cells in block b, bytes S of one's own, older blocks as they were -/
structure Tw (w0 w W : World) (b : Nat) (cs : Array Value) (v : Value) (S : List UInt8) : Prop where
  node : W.heap[b]? = some (.cells cs 32 (0, 0))
  own : W.ownsRow w0.heap.size 5 1 v S.length (S.map B)
  bel : Below w0.heap.size w W
  size : w0.heap.size ≤ W.heap.size
section
variable {w0 w W W' : World} {b : Nat} {cs : Array Value} {v v' : Value} {S Y : List UInt8} {e : Ending}
theorem Tw.ap (h : Tw w0 w W b cs v S) (ho : W'.ownsRow w0.heap.size 5 1 v' (S ++ Y).length ((S ++ Y).map B)) (hb : Below w0.heap.size W W') (hk : Kept (fun k => v.ownBlock ≠ some k) W W') : Tw w0 w W' b cs v' (S ++ Y) :=
  ⟨hk.obj (tg_apart h.own h.node (by decide)) h.node, ho, h.bel.trans hb, Nat.le_trans h.size hb.size⟩
theorem Tw.past (h : Tw w0 w W b cs v S) (hb : Below W.heap.size W W') : Tw w0 w W' b cs v S :=
  ⟨(hb.block _ (Array.getElem?_eq_some_iff.1 h.node).1).trans h.node, own_below h.own hb, h.bel.trans (hb.mono h.size), Nat.le_trans h.size hb.size⟩
theorem Tw.grow {xs : List Value} {n : Nat} (h : Tw w0 w W b cs v S) (hg : W.grownBy W' v.ownBlock) (ho : W'.ownsRow w0.heap.size 5 1 v' n xs) (hn : n = (S ++ Y).length) (hx : xs = (S ++ Y).map B) : Tw w0 w W' b cs v' (S ++ Y) := by
  subst hn hx
  exact ⟨(hg.block _ (Array.getElem?_eq_some_iff.1 h.node).1 (fun e => tg_apart h.own h.node (by decide) e.symm)).trans h.node, ho, h.bel.grown hg h.size fun j hj => (h.own.lt j hj).1, Nat.le_trans h.size hg.size⟩
end

theorem flat_more {l : List (List UInt8)} {k : Nat} (h : k < l.length) : (l.take (k + 1)).flatten = (l.take k).flatten ++ l[k] := by
  rw [List.take_succ_eq_append_getElem h, List.flatten_append, List.flatten_cons, List.flatten_nil, List.append_nil]
theorem tg_eight {t : List UInt8} (h : t.length = 8) : ∃ b0 b1 b2 b3 b4 b5 b6 b7, t = [b0, b1, b2, b3, b4, b5, b6, b7] := by
  match t, h with
  | [b0, b1, b2, b3, b4, b5, b6, b7], _ => exact ⟨b0, b1, b2, b3, b4, b5, b6, b7, rfl⟩

/-- what appendNode answers -/
def AnOut (w0 w : World) (S : List UInt8) (e : Ending) (w' : World) : Prop := ∃ v', e = .returned v' ∧ w'.ownsRow w0.heap.size 5 1 v' S.length (S.map B) ∧ Below w0.heap.size w w'

set_option maxHeartbeats 8000000 in
set_option maxRecDepth 10000 in
theorem tnode_any (w0 w : World) (v : Value) (xs : List UInt8) (name link : ByteArray) (kd md sz : Nat) (time : Int) (parts : List (List UInt8)) (a : Option Addr) (c np : Nat)
    (hB : Below w0.heap.size w0 w) (hown : w.ownsRow w0.heap.size 5 1 v xs.length (xs.map B)) (hx : xs.length ≤ 524288) (hnp : np = parts.length)
    (hP : Rx 8 idC w0 (.slice a np c) parts) (h8 : ∀ p ∈ parts, p.length = 8) (hn : name.size ≤ 1024) (hl : link.size ≤ 1024) (hk : kd ≤ 3) (hm : md ≤ 511) (hz : sz ≤ 4096) (hp : np ≤ 300)
    (ht0 : -9223372036854775808 ≤ time) (ht1 : time ≤ 9223372036854775807) :
    Calls Tryd.prog 19 #[v, .agg #[.string name, .int .i64 (kd : Nat), .int .i64 (md : Nat), .int .i64 time, .int .i64 (sz : Nat), .slice a np c, .string link]] w
      (AnOut w0 w (xs ++ Td.rowT ⟨name.data.toList, (kd : Nat), (md : Nat), time, (sz : Nat), parts, link.data.toList⟩)) := by
  unfold AnOut
  obtain ⟨i0, hi, hz0, hz1, hz2⟩ := info_of' info_u8
  have HRow : Hid (xs ++ Td.rowT ⟨name.data.toList, (kd : Nat), (md : Nat), time, (sz : Nat), parts, link.data.toList⟩ = (((((((xs ++ Nm.putT name.data.toList) ++ [UInt8.ofNat kd]) ++ Nm.put md) ++ Nm.putI time) ++ Nm.put sz) ++ Nm.put np) ++ parts.flatten) ++ Nm.putT link.data.toList) := by
    show _ = _
    rw [hnp]
    simp [Td.rowT]
  generalize xs ++ Td.rowT ⟨name.data.toList, (kd : Nat), (md : Nat), time, (sz : Nat), parts, link.data.toList⟩ = RES at *
  have HPt : Hid (Rx 8 idC w0 (.slice a np c) parts ∧ (∀ p ∈ parts, p.length = 8) ∧ np = parts.length ∧ Below w0.heap.size w0 w) := ⟨hP, h8, hnp, hB⟩
  obtain ⟨av, cv, rfl⟩ := own_len hown
  obtain ⟨W1, hW1⟩ : ∃ W1, W1 = w.alloc (.cells #[.string name, .int .i64 (kd : Nat), .int .i64 (md : Nat), .int .i64 time, .int .i64 (sz : Nat), .slice a np c, .string link] 32) := ⟨_, rfl⟩
  have HW1 : Hid (Tw w0 w W1 w.heap.size #[.string name, .int .i64 (kd : Nat), .int .i64 (md : Nat), .int .i64 time, .int .i64 (sz : Nat), .slice a np c, .string link] (.slice av xs.length cv) xs) := by
    have hb1 : Below w.heap.size w W1 := by rw [hW1]; exact (Below.refl _ w).alloc (Nat.le_refl _) _
    exact ⟨by rw [hW1]; exact heap_alloc_new w _, own_below hown hb1, hb1.mono hB.size, Nat.le_trans hB.size hb1.size⟩
  have htx := fun V s Z W (h1 : W.ownsRow w0.heap.size 5 1 V Z.length (Z.map B)) h2 h3 h4 => ttext_any w0.heap.size V Z s W h1 h2 h3 h4
  have hnu := fun V n Z W (h1 : W.ownsRow w0.heap.size 5 1 V Z.length (Z.map B)) h2 h3 h4 => tnum_any w0.heap.size V Z n W h1 h2 h3 h4
  have hpi := fun W => putI_any time W ht0 ht1
  unfold ApOut at htx hnu
  have hy1 : (Nm.putT name.data.toList).length ≤ 2050 := by have := Nm.putT_length name.data.toList; rw [← Lib.size_eq] at this; omega
  have HY1 : Hid ((Nm.putT link.data.toList).length ≤ 2050) := by have := Nm.putT_length link.data.toList; rw [← Lib.size_eq] at this; show _ ≤ _; omega
  have hy3 := tput9 md
  have hy4 := Nm.putI_length time
  have hy5 := tput9 sz
  have hy6 := tput9 np
  clear hB hown hP h8 hnp
  go_enter Tryd.func19, Tryd.ntmps19
  go_upto_region 1 with fail
  rw [← hW1]
  obtain ⟨b, hb⟩ : ∃ b, b = w.heap.size := ⟨_, rfl⟩
  rw [← hb] at HW1 ⊢
  clear hW1 hb
  obtain ⟨m0, _⟩ := seven_at HW1.out.node
  go_upto_region 2 with (go_at_call 32; refine (htx _ name xs _ HW1.out.own HW1.out.size (by omega) hn).mono ?_; rintro e w2 ⟨v2, rfl, o2, b2, k2⟩)
  have HW2 : Hid (Tw w0 w w2 b #[.string name, .int .i64 (kd : Nat), .int .i64 (md : Nat), .int .i64 time, .int .i64 (sz : Nat), .slice a np c, .string link] v2 (xs ++ Nm.putT name.data.toList)) := HW1.out.ap o2 b2 k2
  clear o2 b2 k2 HW1 m0
  obtain ⟨S1, hS1⟩ : ∃ S1, xs ++ Nm.putT name.data.toList = S1 := ⟨_, rfl⟩
  have hl1 : S1.length ≤ 526400 := by rw [← hS1, List.length_append]; omega
  rw [hS1] at HW2 HRow
  clear hS1 hy1
  obtain ⟨s2, c2, rfl⟩ := own_len HW2.out.own
  -- the kind
  obtain ⟨_, m1, _⟩ := seven_at HW2.out.node
  have hwk : IntKind.u8.wrap (kd : Int) = (kd : Int) := by simp [IntKind.wrap, IntKind.bits, IntKind.signed]; omega
  obtain ⟨W3, hW3⟩ : ∃ W3, W3 = w2.alloc (.cells #[.int .u8 (kd : Int)] 5) := ⟨_, rfl⟩
  have HW3 : Hid (Tw w0 w W3 b #[.string name, .int .i64 (kd : Nat), .int .i64 (md : Nat), .int .i64 time, .int .i64 (sz : Nat), .slice a np c, .string link] (.slice s2 S1.length c2) S1) := by rw [hW3]; exact HW2.out.past ((Below.refl _ w2).alloc (Nat.le_refl _) _)
  have hnews : ∀ j u, ([.int .u8 (kd : Int)] : List Value)[j]? = some u → W3.cell? ((⟨w2.heap.size, 0, none⟩ : Addr).add j) = some u := fun j u hu => by
    rw [hW3, show ((⟨w2.heap.size, 0, none⟩ : Addr).add j) = ⟨w2.heap.size, 0 + j, none⟩ from Addr.add_mid _ _ _, Nat.zero_add, cell_of_row _ w2.heap.size j _ _ _ (heap_alloc_new w2 _)]
    simpa using hu
  have hown3 := HW3.out.own
  have hsz3 := HW3.out.size
  have HM3 : Hid (S1.map B ++ [.int .u8 (kd : Int)] = (S1 ++ [UInt8.ofNat kd]).map B) := by
    show _ = _
    rw [List.map_append]
    congr 1
    show _ = [B (UInt8.ofNat kd)]
    unfold B
    rw [UInt8.toNat_ofNat', Nat.mod_eq_of_lt (by omega)]
  clear HW2
  go_wp2_with (at_builtin; rw [← hW3]; refine wpList_append_own _ rfl (.tmp 11) (.tmp 15) 41 rfl w0.heap.size 5 i0 (.int .u8 0) 1 1 Tryd.underlying41 hi hz0 hz1 hz2 rfl (by decide) _ _ _ rfl hown3 ⟨w2.heap.size, 0, none⟩ 1 1 [.int .u8 (kd : Int)] rfl rfl hnews ?c2 ?c3 ?c4 ?c5 ?_)
  case c2 => intro u hu; rw [List.mem_singleton.1 hu]; rfl
  case c3 => unfold maxLen; omega
  case c4 => omega
  case c5 => exact hsz3
  intro v4 w4 o4 hgrow4 _
  rw [← hW3] at hgrow4
  have HW4 : Hid (Tw w0 w w4 b #[.string name, .int .i64 (kd : Nat), .int .i64 (md : Nat), .int .i64 time, .int .i64 (sz : Nat), .slice a np c, .string link] v4 (S1 ++ [UInt8.ofNat kd])) := HW3.out.grow hgrow4 o4 (by simp) HM3.out
  clear o4 hgrow4 hown3 HW3 hnews hsz3 hW3 m1 HM3 hwk
  obtain ⟨S2, hS2⟩ : ∃ S2, S1 ++ [UInt8.ofNat kd] = S2 := ⟨_, rfl⟩
  have hl2 : S2.length ≤ 526401 := by rw [← hS2, List.length_append, List.length_singleton]; omega
  rw [hS2] at HW4 HRow
  clear hS2
  obtain ⟨s4, c4, rfl⟩ := own_len HW4.out.own
  go_upto_region 3 with fail
  obtain ⟨_, _, m2, _⟩ := seven_at HW4.out.node
  go_upto_region 4 with (go_at_call 18; refine (hnu _ md S2 _ HW4.out.own HW4.out.size (by omega) (by omega)).mono ?_; rintro e w5 ⟨v5, rfl, o5, b5, k5⟩)
  have HW5 : Hid (Tw w0 w w5 b #[.string name, .int .i64 (kd : Nat), .int .i64 (md : Nat), .int .i64 time, .int .i64 (sz : Nat), .slice a np c, .string link] v5 (S2 ++ Nm.put md)) := HW4.out.ap o5 b5 k5
  clear o5 b5 k5 HW4 m2
  obtain ⟨S3, hS3⟩ : ∃ S3, S2 ++ Nm.put md = S3 := ⟨_, rfl⟩
  have hlS3 : S3.length ≤ 526410 := by rw [← hS3, List.length_append]; omega
  rw [hS3] at HW5 HRow
  clear hS3 hy3
  obtain ⟨s5, c5, rfl⟩ := own_len HW5.out.own
  obtain ⟨_, _, _, m3, _⟩ := seven_at HW5.out.node
  obtain ⟨S, hS⟩ : ∃ S : ByteArray, (⟨(Nm.putI time).toArray⟩ : ByteArray) = S := ⟨_, rfl⟩
  have HS : Hid (Lib.strCells S = (Nm.putI time).map B ∧ S.size = (Nm.putI time).length) := by rw [← hS]; exact ⟨rfl, by show (Nm.putI time).toArray.size = _; rw [List.size_toArray]⟩
  have hSz : S.size ≤ 9 := by rw [HS.out.2]; exact hy4
  rw [hS] at hpi
  clear hS
  go_wp2_with fail
  refine (hpi _).mono ?_
  rintro e w6 ⟨rfl, b6⟩
  have HW6 : Hid (Tw w0 w w6 b #[.string name, .int .i64 (kd : Nat), .int .i64 (md : Nat), .int .i64 time, .int .i64 (sz : Nat), .slice a np c, .string link] (.slice s5 S3.length c5) S3) := HW5.out.past b6
  have hown6 := HW6.out.own
  have hsz6 := HW6.out.size
  clear b6 HW5 hpi m3
  go_wp2_with (at_builtin; refine Lib.wpList_append_own_string _ rfl (.tmp 21) (.tmp 24) 41 9 rfl w0.heap.size 5 i0 Tryd.underlying41 Tryd.underlying9 hi hz0 hz1 hz2 _ _ _ rfl hown6 S rfl ?d3 ?d4 ?d5 ?_)
  case d3 => unfold maxLen; omega
  case d4 => omega
  case d5 => exact hsz6
  intro v7 w7 o7 hgrow7 _
  have HW7 : Hid (Tw w0 w w7 b #[.string name, .int .i64 (kd : Nat), .int .i64 (md : Nat), .int .i64 time, .int .i64 (sz : Nat), .slice a np c, .string link] v7 (S3 ++ Nm.putI time)) := HW6.out.grow hgrow7 o7 (by rw [List.length_append, HS.out.2]) (by rw [List.map_append, HS.out.1])
  clear o7 hgrow7 hown6 hsz6 HW6 HS hSz
  obtain ⟨S4, hS4⟩ : ∃ S4, S3 ++ Nm.putI time = S4 := ⟨_, rfl⟩
  have hl4 : S4.length ≤ 526420 := by rw [← hS4, List.length_append]; omega
  rw [hS4] at HW7 HRow
  clear hS4 hy4
  obtain ⟨s7, c7, rfl⟩ := own_len HW7.out.own
  go_upto_region 5 with fail
  obtain ⟨_, _, _, _, m4, _⟩ := seven_at HW7.out.node
  go_upto_region 6 with (go_at_call 18; refine (hnu _ sz S4 _ HW7.out.own HW7.out.size (by omega) (by omega)).mono ?_; rintro e w8 ⟨v8, rfl, o8, b8, k8⟩)
  have HW8 : Hid (Tw w0 w w8 b #[.string name, .int .i64 (kd : Nat), .int .i64 (md : Nat), .int .i64 time, .int .i64 (sz : Nat), .slice a np c, .string link] v8 (S4 ++ Nm.put sz)) := HW7.out.ap o8 b8 k8
  clear o8 b8 k8 HW7 m4
  obtain ⟨S5, hS5⟩ : ∃ S5, S4 ++ Nm.put sz = S5 := ⟨_, rfl⟩
  have hlS5 : S5.length ≤ 526430 := by rw [← hS5, List.length_append]; omega
  rw [hS5] at HW8 HRow
  clear hS5 hy5
  obtain ⟨s8, c8, rfl⟩ := own_len HW8.out.own
  obtain ⟨_, _, _, _, _, m5, _⟩ := seven_at HW8.out.node
  go_upto_region 7 with (go_at_call 18; refine (hnu _ np S5 _ HW8.out.own HW8.out.size (by omega) (by omega)).mono ?_; rintro e w9 ⟨v9, rfl, o9, b9, k9⟩)
  have HW9 : Hid (Tw w0 w w9 b #[.string name, .int .i64 (kd : Nat), .int .i64 (md : Nat), .int .i64 time, .int .i64 (sz : Nat), .slice a np c, .string link] v9 (S5 ++ Nm.put np)) := HW8.out.ap o9 b9 k9
  clear o9 b9 k9 HW8 m5
  obtain ⟨S6, hS6⟩ : ∃ S6, S5 ++ Nm.put np = S6 := ⟨_, rfl⟩
  have hlS6 : S6.length ≤ 526440 := by rw [← hS6, List.length_append]; omega
  rw [hS6] at HW9 HRow
  clear hS6 hy6
  obtain ⟨s9, c9, rfl⟩ := own_len HW9.out.own
  obtain ⟨_, _, _, _, _, m5, _⟩ := seven_at HW9.out.node
  have HW9' : Hid (Tw w0 w w9 b #[.string name, .int .i64 (kd : Nat), .int .i64 (md : Nat), .int .i64 time, .int .i64 (sz : Nat), .slice a np c, .string link] (.slice s9 S6.length c9) (S6 ++ (parts.take 0).flatten)) := by
    show Tw _ _ _ _ _ _ _
    rw [List.take_zero, List.flatten_nil, List.append_nil]
    exact HW9.out
  have HFl : Hid (∀ k, k ≤ np → (parts.take k).flatten.length = 8 * k) := fun k hk => by
    rw [Td.flat8 fun p hp => HPt.out.2.1 p (List.mem_of_mem_take hp), List.length_take]
    have := HPt.out.2.2.1
    omega
  clear hnu HW9
  go_wp2_with fail
  clear m5
  go_loopw [0, 38] (fun vo i wr => ∃ k : Nat, k ≤ np ∧ i = .int .i64 k ∧ Hid (Tw w0 w wr b #[.string name, .int .i64 (kd : Nat), .int .i64 (md : Nat), .int .i64 time, .int .i64 (sz : Nat), .slice a np c, .string link] vo (S6 ++ (parts.take k).flatten))) (fun _ i _ => np - (intOf i).toNat)
  case atStart => exact ⟨0, by omega, rfl, HW9'⟩
  case round =>
    clear HW9'
    obtain ⟨k, hk, rfl, HW⟩ := hrel
    have hfl := HFl.out k hk
    obtain ⟨S, hS⟩ : ∃ S, S6 ++ (parts.take k).flatten = S := ⟨_, rfl⟩
    have hSl : S.length ≤ 526440 + 8 * k := by rw [← hS, List.length_append, hfl]; omega
    have HSk : Hid (S6 ++ (parts.take k).flatten = S) := hS
    rw [hS] at HW
    clear hfl hS
    obtain ⟨so, co, hvo⟩ := own_len HW.out.own
    subst hvo
    by_cases hlt : k < np
    · have hkl : k < parts.length := by rw [← HPt.out.2.2.1]; exact hlt
      obtain ⟨bk, o, rfl, hbk, hcell⟩ := (HPt.out.1.below (HPt.out.2.2.2.trans HW.out.bel)).get k parts[k] (List.getElem?_eq_getElem hkl)
      obtain ⟨b0, b1, b2, b3, b4, b5, b6, b7, ht8⟩ := tg_eight (HPt.out.2.1 parts[k] (List.getElem_mem hkl))
      have HM : Hid (S6 ++ (parts.take (k + 1)).flatten = S ++ [b0, b1, b2, b3, b4, b5, b6, b7]) := by show _ = _; rw [flat_more hkl, ← List.append_assoc, HSk.out, ht8]
      rw [ht8] at hcell
      have x0 : wr.cell? ⟨bk, o + k * 8, none⟩ = some (.int .u8 (b0.toNat : Int)) := hcell 0 _ rfl
      have x1 : wr.cell? ⟨bk, o + k * 8 + 1, none⟩ = some (.int .u8 (b1.toNat : Int)) := hcell 1 _ rfl
      have x2 : wr.cell? ⟨bk, o + k * 8 + 2, none⟩ = some (.int .u8 (b2.toNat : Int)) := hcell 2 _ rfl
      have x3 : wr.cell? ⟨bk, o + k * 8 + 3, none⟩ = some (.int .u8 (b3.toNat : Int)) := hcell 3 _ rfl
      have x4 : wr.cell? ⟨bk, o + k * 8 + 4, none⟩ = some (.int .u8 (b4.toNat : Int)) := hcell 4 _ rfl
      have x5 : wr.cell? ⟨bk, o + k * 8 + 5, none⟩ = some (.int .u8 (b5.toNat : Int)) := hcell 5 _ rfl
      have x6 : wr.cell? ⟨bk, o + k * 8 + 6, none⟩ = some (.int .u8 (b6.toNat : Int)) := hcell 6 _ rfl
      have x7 : wr.cell? ⟨bk, o + k * 8 + 7, none⟩ = some (.int .u8 (b7.toNat : Int)) := hcell 7 _ rfl
      clear hcell ht8 HSk
      obtain ⟨W5, hW5⟩ : ∃ W5, W5 = wr.alloc (.cells #[.int .u8 (b0.toNat : Int), .int .u8 (b1.toNat : Int), .int .u8 (b2.toNat : Int), .int .u8 (b3.toNat : Int), .int .u8 (b4.toNat : Int), .int .u8 (b5.toNat : Int), .int .u8 (b6.toNat : Int), .int .u8 (b7.toNat : Int)] 49) := ⟨_, rfl⟩
      have HW5 : Hid (Tw w0 w W5 b #[.string name, .int .i64 (kd : Nat), .int .i64 (md : Nat), .int .i64 time, .int .i64 (sz : Nat), .slice (some ⟨bk, o, none⟩) np c, .string link] (.slice so S.length co) S) := by rw [hW5]; exact HW.out.past ((Below.refl _ wr).alloc (Nat.le_refl _) _)
      have hnews : ∀ j u, ([b0, b1, b2, b3, b4, b5, b6, b7].map B)[j]? = some u → W5.cell? ((⟨wr.heap.size, 0, none⟩ : Addr).add j) = some u := fun j u hu => by
        rw [hW5, show ((⟨wr.heap.size, 0, none⟩ : Addr).add j) = ⟨wr.heap.size, 0 + j, none⟩ from Addr.add_mid _ _ _, Nat.zero_add, cell_of_row _ wr.heap.size j _ _ _ (heap_alloc_new wr _)]
        match j, hu with
        | 0, hu => exact hu
        | 1, hu => exact hu
        | 2, hu => exact hu
        | 3, hu => exact hu
        | 4, hu => exact hu
        | 5, hu => exact hu
        | 6, hu => exact hu
        | 7, hu => exact hu
        | n + 8, hu => simp at hu
      have hown5 := HW5.out.own
      have hsz5 := HW5.out.size
      clear HW
      go_upto_region 10 with fail
      rw [← hW5]
      clear hW5 x0 x1 x2 x3 x4 x5 x6 x7
      go_wp2_with (at_builtin; refine wpList_append_own _ rfl (.tmp 42) (.tmp 43) 41 rfl w0.heap.size 5 i0 (.int .u8 0) 1 1 Tryd.underlying41 hi hz0 hz1 hz2 rfl (by decide) _ _ _ rfl hown5 ⟨wr.heap.size, 0, none⟩ 8 8 ([b0, b1, b2, b3, b4, b5, b6, b7].map B) rfl rfl hnews ?e2 ?e3 ?e4 ?e5 ?_)
      case e2 => intro u hu; obtain ⟨x, _, rfl⟩ := List.mem_map.1 hu; rfl
      case e3 => unfold maxLen; omega
      case e4 => omega
      case e5 => exact hsz5
      intro v8 w8 o8 hgrow8 _
      have HW8 : Hid (Tw w0 w w8 b #[.string name, .int .i64 (kd : Nat), .int .i64 (md : Nat), .int .i64 time, .int .i64 (sz : Nat), .slice (some ⟨bk, o, none⟩) np c, .string link] v8 (S6 ++ (parts.take (k + 1)).flatten)) := by
        rw [HM.out]
        exact HW5.out.grow hgrow8 o8 (by simp) (by rw [List.map_append]; rfl)
      clear o8 hgrow8 hown5 HW5 hnews hsz5 HM
      go_wp2_with fail
      go_roundw
      case rel => exact ⟨k + 1, by omega, by go_num, HW8⟩
      case measure => simp only [intOf]; omega
    · have hke : parts.take k = parts := List.take_of_length_le (by have := HPt.out.2.2.1; omega)
      rw [hke] at HSk
      rw [HSk.out] at HRow
      obtain ⟨_, _, _, _, _, _, m6⟩ := seven_at HW.out.node
      have hb6 : S.length ≤ 1048576 := by omega
      clear hke HSk
      go_wp2_with (go_at_call 32; refine (htx _ link S _ HW.out.own HW.out.size hb6 hl).mono ?_; rintro e w12 ⟨v12, rfl, o12, b12, k12⟩)
      have HO : Hid (w12.ownsRow w0.heap.size 5 1 v12 RES.length (RES.map B)) := by rw [HRow.out]; exact o12
      have HB : Hid (Below w0.heap.size w w12) := HW.out.bel.trans b12
      go_ret
      exact ⟨_, rfl, HO.out, HB.out⟩

theorem trows_more (l : List Nod) (k : Nat) (h : k < l.length) : Td.rowsT (nds (l.take (k + 1))) = Td.rowsT (nds (l.take k)) ++ Td.rowT l[k].nd := by
  rw [List.take_succ_eq_append_getElem h]
  simp only [nds, Td.rowsT, List.map_append, List.map_cons, List.map_nil, List.flatten_append, List.flatten_cons, List.flatten_nil, List.append_nil]
theorem trow_len {n : Nod} (h : Td.nErr n.nd = 0) (h8 : ∀ p ∈ n.parts, p.length = 8) : (Td.rowT n.nd).length ≤ 6600 := by
  obtain ⟨q0, q1, q2, q3, q4, q5, q6, q7, q8⟩ := Td.nErr_ok h
  have a1 := Nm.putT_length n.nd.name
  have a2 := Nn.nm_long q0
  have a3 := Nm.putT_length n.nd.link
  have a4 := tput9 n.nd.mode.toNat
  have a5 := tput9 n.nd.size.toNat
  have a6 := tput9 n.nd.parts.length
  have a7 := Nm.putI_length n.nd.time
  have a8 : n.nd.parts.flatten.length = 8 * n.nd.parts.length := Td.flat8 h8
  unfold Td.rowT
  simp only [List.length_append, List.length_cons]
  omega

set_option maxHeartbeats 4000000 in
set_option maxRecDepth 10000 in
theorem twrite_any (v : Value) (l : List Nod) (w : World) (h : Nds w v l) (hl : l.length ≤ 9223372036854775807) (hT : Tabs w) :
    Calls Tryd.prog 8 #[v] w fun e w' => e = .returned (.tuple #[.string ⟨(Td.write (nds l)).1.toArray⟩, .int .i64 (Td.write (nds l)).2]) ∧ Below w.heap.size w w' := by
  obtain ⟨a, c, rfl⟩ := h.slice
  have hno := tcheck_any _ l w h hl hT
  have HX : Hid (Nds w (.slice a l.length c) l) := h
  have HZ : Hid (Td.write (nds l) = if Td.check (nds l) ≠ 0 then ([], Td.check (nds l)) else if 4096 < (Td.textB (nds l)).length then ([], 2) else (Td.textB (nds l), 0)) := rfl
  have HC : Hid (Td.check (nds l) = 0 → l.length ≤ 64 ∧ ∀ n ∈ l, Td.nErr n.nd = 0) := fun q => by
    obtain ⟨c1, c2⟩ := Td.check_ok q
    rw [nds_length] at c1
    exact ⟨c1, fun n hn => c2 _ (List.mem_map_of_mem hn)⟩
  have HTx : Hid (Td.textB (nds l) = Nm.put l.length ++ Td.rowsT (nds l)) := by show _ = _; rw [Td.textB, nds_length]
  generalize Td.write (nds l) = Z at *
  generalize Td.check (nds l) = E at *
  generalize Td.textB (nds l) = TX at *
  obtain ⟨N, hN⟩ : ∃ N, N = l.length := ⟨_, rfl⟩
  have HN : Hid (N = l.length) := hN
  rw [← hN] at HX HC HTx hl hno ⊢
  clear h hT hN
  go_enter Tryd.func8, Tryd.ntmps8
  go_wp2_with fail
  refine hno.mono ?_
  rintro e w1 ⟨rfl, b1⟩
  have HB1 : Hid (Below w.heap.size w w1) := b1
  clear hno b1
  by_cases hE : E ≠ 0
  · have hqn : (E != 0) = true := by rw [bne_iff_ne]; exact hE
    have HR : Hid (Z = ([], E)) := by
      have := HZ.out
      rwa [if_pos hE] at this
    clear HZ HC HTx
    go_wp2_with fail
    go_ret2
    exact ⟨by rw [HR.out]; rfl, HB1.out⟩
  obtain rfl := Decidable.not_not.mp hE
  clear hE
  obtain ⟨h64, hok⟩ := HC.out rfl
  have HOk : Hid (∀ n ∈ l, Td.nErr n.nd = 0) := hok
  have HZ1 : Hid (Z = if 4096 < TX.length then ([], 2) else (TX, 0)) := by
    have := HZ.out
    rwa [if_neg (by simp)] at this
  have hpn := tnum_any w.heap.size (.slice none 0 0) [] N w1 (World.ownsRow_nil _ _ _ _) HB1.out.size (by simp) (by omega)
  unfold ApOut at hpn
  rw [List.nil_append] at hpn
  obtain ⟨P0, hP0⟩ : ∃ P0, P0 = Nm.put N := ⟨_, rfl⟩
  have HP9 : Hid (P0.length ≤ 9) := by show _ ≤ _; rw [hP0]; exact tput9 _
  rw [← hP0] at hpn HTx
  clear hok HC HZ hP0
  go_wp2_with fail
  refine hpn.mono ?_
  rintro e w2 ⟨v2, rfl, o2, b2, _⟩
  have HB2 : Hid (Below w.heap.size w w2) := HB1.out.trans b2
  have HO2 : Hid (w2.ownsRow w.heap.size 5 1 v2 P0.length (P0.map B)) := o2
  clear hpn b2 HB1 o2
  go_wp2_with fail
  go_loopw [5, 18] (fun x i wr => ∃ (k : Nat) (L : List UInt8), k ≤ N ∧ i = .int .i64 k ∧ L.length ≤ 9 + 6600 * k ∧ Hid (wr.ownsRow w.heap.size 5 1 x L.length (L.map B)) ∧ Hid (P0 ++ Td.rowsT (nds (l.take k)) = L) ∧ Hid (Below w.heap.size w wr)) (fun _ i _ => N - (intOf i).toNat)
  case atStart => exact ⟨0, P0, by omega, rfl, by have := HP9.out; omega, HO2, List.append_nil _, HB2⟩
  case round =>
    clear HB2 HO2
    obtain ⟨k, L, hk, rfl, hLl, HO, HL, HB⟩ := hrel
    obtain ⟨so, co, hvo⟩ := own_len HO.out
    subst hvo
    by_cases hlt : k < N
    · have hkl : k < l.length := by rw [← HN.out]; exact hlt
      obtain ⟨bk, o, cs, rfl, hbk, hcl, ⟨v, rfl, hPs, hnk⟩, hcell⟩ := (HX.out.below HB.out).get k l[k] (List.getElem?_eq_getElem hkl)
      have HPw : Hid (Rx 8 idC w v l[k].parts) := by
        obtain ⟨bk', o', cs', e', _, _, ⟨v', rfl, q, _⟩, hc'⟩ := HX.out.get k l[k] (List.getElem?_eq_getElem hkl)
        cases e'
        have e1 := hcell 5 _ rfl
        have e2 := (Below.cell HB.out (p := ⟨bk, o + k * 7 + 5, none⟩) (World.block_lt_of_cell? w _ (hc' 5 _ rfl))).trans (hc' 5 _ rfl)
        rw [e1, Option.some.injEq] at e2
        rw [e2]
        exact q
      have HRw : Hid (Td.rowsT (nds (l.take (k + 1))) = Td.rowsT (nds (l.take k)) ++ Td.rowT l[k].nd) := trows_more l k hkl
      have HRl : Hid ((Td.rowT l[k].nd).length ≤ 6600) := trow_len (HOk.out _ (List.getElem_mem hkl)) hnk.ids
      obtain ⟨q0, q1, q2, q3, q4, q5, q6, q7, q8⟩ := Td.nErr_ok (HOk.out _ (List.getElem_mem hkl))
      have q9 := Nn.nm_long q0
      obtain ⟨av, cv, rfl, _⟩ := hPs.slice
      have htm := hnk.time
      have h8 := hnk.ids
      have c0 : wr.cell? ⟨bk, o + k * 7, none⟩ = some (.string l[k].name) := hcell 0 _ rfl
      have c1 := hcell 1 _ rfl
      have c2 := hcell 2 _ rfl
      have c3 := hcell 3 _ rfl
      have c4 := hcell 4 _ rfl
      have c5 := hcell 5 _ rfl
      have c6 := hcell 6 _ rfl
      generalize l[k] = n at *
      obtain ⟨name, kind, mode, time, size, parts, link⟩ := n
      dsimp only [Nod.nd] at *
      obtain ⟨kd, rfl⟩ := Int.eq_ofNat_of_zero_le (a := kind) (by omega)
      obtain ⟨md, rfl⟩ := Int.eq_ofNat_of_zero_le q1
      obtain ⟨sz, rfl⟩ := Int.eq_ofNat_of_zero_le q3
      obtain ⟨np, hnp⟩ : ∃ np, np = parts.length := ⟨_, rfl⟩
      rw [← hnp] at HPw q5 c5
      simp [Lit.wf, IntKind.min, IntKind.max, IntKind.signed, IntKind.bits] at htm
      obtain ⟨W1, hW1⟩ : ∃ W1, W1 = wr.alloc (.cells #[.string name, .int .i64 (kd : Nat), .int .i64 (md : Nat), .int .i64 time, .int .i64 (sz : Nat), .slice av np cv, .string link] 32) := ⟨_, rfl⟩
      have hB1 : Below wr.heap.size wr W1 := by rw [hW1]; exact (Below.refl _ wr).alloc (Nat.le_refl _) _
      have HM1 : Hid (W1.heap[wr.heap.size]? = some (.cells #[.string name, .int .i64 (kd : Nat), .int .i64 (md : Nat), .int .i64 time, .int .i64 (sz : Nat), .slice av np cv, .string link] 32 (0, 0))) := by rw [hW1]; exact heap_alloc_new wr _
      have HB1 : Hid (Below w.heap.size w W1) := HB.out.trans (hB1.mono HB.out.size)
      have han := tnode_any w W1 (.slice so L.length co) L name link kd md sz time parts av cv np HB1.out (own_below HO.out hB1) (by omega) hnp HPw.out h8 (by rw [Lib.size_eq]; omega) (by rw [Lib.size_eq]; exact q8) (by omega) (by omega) (by omega) q5 htm.1 htm.2
      unfold AnOut at han
      obtain ⟨L2, hL2⟩ : ∃ L2, L ++ Td.rowT ⟨name.data.toList, (kd : Nat), (md : Nat), time, (sz : Nat), parts, link.data.toList⟩ = L2 := ⟨_, rfl⟩
      have hL2l : L2.length ≤ 9 + 6600 * (k + 1) := by have := HRl.out; rw [← hL2, List.length_append]; omega
      have HL2 : Hid (P0 ++ Td.rowsT (nds (l.take (k + 1))) = L2) := by show _ = _; rw [HRw.out, ← List.append_assoc, HL.out, hL2]
      rw [hL2] at han
      clear hcell hPs hnk hcl hB1 hnp q0 q6 hL2 HRl HRw HPw h8 HL HO
      go_upto_region 8 with fail
      rw [← hW1]
      obtain ⟨b7, hb7⟩ : ∃ b7, b7 = wr.heap.size := ⟨_, rfl⟩
      rw [← hb7] at HM1 ⊢
      obtain ⟨m0, m1, m2, m3, m4, m5, m6⟩ := seven_at HM1.out
      clear hW1 c0 c1 c2 c3 c4 c5 c6 hb7
      go_wp2_with fail
      refine han.mono ?_
      rintro e w3 ⟨v3, rfl, o3, b3⟩
      have HO3 : Hid (w3.ownsRow w.heap.size 5 1 v3 L2.length (L2.map B)) := o3
      have HB3 : Hid (Below w.heap.size w w3) := HB1.out.trans b3
      clear han o3 b3 m0 m1 m2 m3 m4 m5 m6
      go_wp2_with fail
      go_roundw
      case measure => simp only [intOf]; omega
      case rel => exact ⟨k + 1, L2, by omega, by go_num, hL2l, HO3, HL2, HB3⟩
    · obtain rfl : k = N := by omega
      have HTT : Hid (TX = L) := by
        show _ = _
        rw [HTx.out, ← HL.out, List.take_of_length_le (by rw [HN.out]; exact Nat.le_refl _)]
      have hcv := run_str HO.out
      clear HL HO
      by_cases h4 : 4096 < L.length
      · have g4 : (4096 : Int) < (L.length : Int) := by omega
        have HR : Hid (Z = ([], 2)) := by
          have := HZ1.out
          rwa [HTT.out, if_pos h4] at this
        clear HZ1 hcv
        go_wp2_with fail
        go_ret2
        exact ⟨by rw [HR.out]; rfl, HB.out⟩
      · have g4 : ¬ (4096 : Int) < (L.length : Int) := by omega
        have HR : Hid (Z = (L, 0)) := by
          have := HZ1.out
          rwa [HTT.out, if_neg h4] at this
        clear HZ1
        go_wp2_with fail
        go_ret2
        exact ⟨by rw [HR.out]; rfl, HB.out⟩
end Go.Proofs.YtcgecafajgoeeaaDoor

namespace Go.Proofs.YtcgecafajgoeeaaDoor
open Go.RowKit
set_option maxRecDepth 4000

/-- a reader in block b: what is left, and its error -/
def Rs (W : World) (b : Nat) (x : Td.St) : Prop := W.heap[b]? = some (.cells #[.string ⟨x.1.toArray⟩, .int .i64 x.2] 51 (0, 0))
section
variable {W W' : World} {b : Nat} {x : Td.St}
theorem Rs.cells (h : Rs W b x) : W.cell? ⟨b, 0, none⟩ = some (.string ⟨x.1.toArray⟩) ∧ W.cell? ⟨b, 1, none⟩ = some (.int .i64 x.2) ∧ W.frozen? ⟨b, 0, none⟩ = false ∧ W.frozen? ⟨b, 1, none⟩ = false := by
  unfold Rs at h
  refine ⟨?_, ?_, ?_, ?_⟩
  · simp only [World.cell?, h]; rfl
  · simp only [World.cell?, h]; rfl
  · simp [World.frozen?, h]
  · simp [World.frozen?, h]
theorem Rs.set0 (h : Rs W b x) (l : List UInt8) : Rs (W.setCell ⟨b, 0, none⟩ (.string ⟨l.toArray⟩)) b (l, x.2) := by
  unfold Rs at h ⊢
  simp [World.setCell, Array.getElem?_modify, h]
theorem Rs.set1 (h : Rs W b x) (e : Int) : Rs (W.setCell ⟨b, 1, none⟩ (.int .i64 e)) b (x.1, e) := by
  unfold Rs at h ⊢
  simp [World.setCell, Array.getElem?_modify, h]
theorem Rs.lt (h : Rs W b x) : b < W.heap.size := (Array.getElem?_eq_some_iff.1 h).1
theorem Rs.past (h : Rs W b x) (hb : Below W.heap.size W W') : Rs W' b x := (hb.block _ h.lt).trans h
end
/-- what a reader's call answers -/
def RsOut (b : Nat) (w : World) (v : Value) (x : Td.St) (e : Ending) (w' : World) : Prop := e = .returned v ∧ Rs w' b x ∧ Kept (fun j => j ≠ b) w w'
theorem tg_ext (l : List UInt8) (k : Nat) : (⟨l.toArray⟩ : ByteArray).extract k (⟨l.toArray⟩ : ByteArray).size = ⟨(l.drop k).toArray⟩ := by
  apply ByteArray.ext
  apply Array.toList_inj.1
  rw [Nn.ext_drop']
theorem tg_size (l : List UInt8) : (⟨l.toArray⟩ : ByteArray).size = l.length := by show l.toArray.size = _; rw [List.size_toArray]

set_option maxHeartbeats 1000000 in
theorem rdtake_any (b k : Nat) (e : Int) (x : Td.St) (w : World) (h : Rs w b x) (hk : e = 0 → k ≤ x.1.length) (hx : x.1.length ≤ 1048576) :
    Calls Tryd.prog 55 #[.pointer (some ⟨b, 0, none⟩), .int .i64 k, .int .i64 e] w (RsOut b w (.bool (Td.tk k e x).1) (Td.tk k e x).2) := by
  unfold RsOut
  obtain ⟨l, er⟩ := x
  obtain ⟨c0, c1, f0, f1⟩ := h.cells
  have H0 : Hid (Rs w b (l, er)) := h
  by_cases h1 : er ≠ 0
  · rw [Td.tk_stay h1]
    have q : (er != 0) = true := by rw [bne_iff_ne]; exact h1
    clear h
    go_enter Tryd.func55, Tryd.ntmps55
    go_wp2_with fail
    go_ret
    exact ⟨rfl, H0.out, Kept.refl _ _⟩
  obtain rfl := Decidable.not_not.mp h1
  by_cases h2 : e ≠ 0
  · rw [Td.tk_err h2]
    have q : (e != 0) = true := by rw [bne_iff_ne]; exact h2
    have H1 : Hid (Rs (w.setCell ⟨b, 1, none⟩ (.int .i64 e)) b (l, e)) := h.set1 e
    have HK : Hid (Kept (fun j => j ≠ b) w (w.setCell ⟨b, 1, none⟩ (.int .i64 e))) := (Kept.refl _ w).setCell (by simp) _
    clear h hk
    go_enter Tryd.func55, Tryd.ntmps55
    go_wp2_with fail
    go_ret
    exact ⟨rfl, H1.out, HK.out⟩
  obtain rfl := Decidable.not_not.mp h2
  rw [Td.tk_ok]
  have hkl : k ≤ l.length := hk rfl
  replace hx : l.length ≤ 1048576 := hx
  obtain ⟨s, hs⟩ : ∃ s : ByteArray, s = ⟨l.toArray⟩ := ⟨_, rfl⟩
  have hsz : s.size = l.length := by rw [hs]; exact tg_size l
  have hex : s.extract k s.size = ⟨(l.drop k).toArray⟩ := by rw [hs]; exact tg_ext l k
  have HE : Hid (s.extract k s.size = ⟨(l.drop k).toArray⟩) := hex
  have H1 : Hid (Rs (w.setCell ⟨b, 0, none⟩ (.string (s.extract k s.size))) b (l.drop k, 0)) := by rw [hex]; exact h.set0 _
  have HK : Hid (Kept (fun j => j ≠ b) w (w.setCell ⟨b, 0, none⟩ (.string (s.extract k s.size)))) := (Kept.refl _ w).setCell (by simp) _
  have hk1 : (k : Int) ≤ (s.size : Int) := by omega
  dsimp only at c0 c1
  rw [← hs] at c0
  have hsx : s.size ≤ 1048576 := by omega
  clear h hk hs hex h1 h2 hkl hsz
  go_enter Tryd.func55, Tryd.ntmps55
  go_wp2_with fail
  go_ret
  exact ⟨rfl, H1.out, HK.out⟩

set_option maxHeartbeats 1000000 in
theorem rdnumber_any (b most : Nat) (x : Td.St) (w : World) (h : Rs w b x) (hm : most ≤ 4096) (hx : x.1.length ≤ 1048576) :
    Calls Tryd.prog 41 #[.pointer (some ⟨b, 0, none⟩), .int .u64 most] w (RsOut b w (.int .i64 (Td.sNum most x).1) (Td.sNum most x).2) := by
  have hg := get_any ⟨x.1.toArray⟩ w (by rw [tg_size]; omega)
  rcases hG : Nm.getN x.1 with ⟨n, k, e0⟩
  have hG' : Nm.getN (⟨x.1.toArray⟩ : ByteArray).data.toList = (n, k, e0) := hG
  rw [hG'] at hg
  have hT : Td.sNum most x = (if (Td.tk k (Td.nuE most x.1) x).1 = true then n else 0, (Td.tk k (Td.nuE most x.1) x).2) := by unfold Td.sNum; rw [hG]
  have hE : Td.nuE most x.1 = if e0 = 0 ∧ most < n then 2 else e0 := by unfold Td.nuE; rw [hG]
  have hk : Td.nuE most x.1 = 0 → k ≤ x.1.length ∧ n ≤ most := fun q => by
    rw [hE] at q
    split at q
    · cases q
    · rename_i q2
      subst q
      exact ⟨(Nm.get_one hG).1, by
        by_cases z : most < n
        · exact absurd ⟨rfl, z⟩ q2
        · omega⟩
  have ht := rdtake_any b k (Td.nuE most x.1) x w h (fun q => (hk q).1) hx
  have HTr : Hid ((Td.tk k (Td.nuE most x.1) x).1 = true → n ≤ most) := fun q => (hk (Td.tk_true q).2).2
  rw [hT]
  obtain ⟨c0, c1, f0, f1⟩ := h.cells
  generalize Td.tk k (Td.nuE most x.1) x = T at *
  generalize Td.nuE most x.1 = E at *
  unfold RsOut at ht ⊢
  have hn0 : (0 : Int) ≤ (n : Int) := by omega
  clear h hk hT hG hG' hx
  go_enter Tryd.func41, Tryd.ntmps41
  go_wp2_with fail
  refine hg.mono ?_
  rintro e u ⟨rfl, hu⟩
  obtain rfl := hu.symm
  clear hg hu
  by_cases h1 : e0 ≠ 0
  · have q : (e0 == 0) = false := by rw [beq_eq_false_iff_ne]; exact h1
    rw [if_neg (fun z => h1 z.1)] at hE
    subst hE
    clear h1
    go_wp2_with fail
    refine ht.mono ?_
    rintro e w2 ⟨rfl, r2, k2⟩
    have HR : Hid (Rs w2 b T.2 ∧ Kept (fun j => j ≠ b) w w2) := ⟨r2, k2⟩
    clear ht r2 k2
    obtain ⟨tb, x2⟩ := T
    dsimp only at *
    cases tb with
    | true =>
      have hnm : n ≤ most := HTr.out rfl
      have hw64 : wrap64 (n : Int) = (n : Int) := by unfold wrap64; omega
      clear HTr
      go_wp2_with fail
      go_ret
      exact ⟨rfl, HR.out⟩
    | false =>
      clear HTr
      go_wp2_with fail
      go_ret
      exact ⟨rfl, HR.out⟩
  obtain rfl := Decidable.not_not.mp h1
  clear h1
  by_cases h2 : most < n
  · rw [if_pos ⟨rfl, h2⟩] at hE
    subst hE
    have q : (most : Int) < (n : Int) := by omega
    go_wp2_with fail
    refine ht.mono ?_
    rintro e w2 ⟨rfl, r2, k2⟩
    have HR : Hid (Rs w2 b T.2 ∧ Kept (fun j => j ≠ b) w w2) := ⟨r2, k2⟩
    clear ht r2 k2
    obtain ⟨tb, x2⟩ := T
    dsimp only at *
    cases tb with
    | true =>
      have hnm : n ≤ most := HTr.out rfl
      have hw64 : wrap64 (n : Int) = (n : Int) := by unfold wrap64; omega
      clear HTr
      go_wp2_with fail
      go_ret
      exact ⟨rfl, HR.out⟩
    | false =>
      clear HTr
      go_wp2_with fail
      go_ret
      exact ⟨rfl, HR.out⟩
  · rw [if_neg (fun z => h2 z.2)] at hE
    subst hE
    have q : ¬ (most : Int) < (n : Int) := by omega
    go_wp2_with fail
    refine ht.mono ?_
    rintro e w2 ⟨rfl, r2, k2⟩
    have HR : Hid (Rs w2 b T.2 ∧ Kept (fun j => j ≠ b) w w2) := ⟨r2, k2⟩
    clear ht r2 k2
    obtain ⟨tb, x2⟩ := T
    dsimp only at *
    cases tb with
    | true =>
      have hnm : n ≤ most := HTr.out rfl
      have hw64 : wrap64 (n : Int) = (n : Int) := by unfold wrap64; omega
      clear HTr
      go_wp2_with fail
      go_ret
      exact ⟨rfl, HR.out⟩
    | false =>
      clear HTr
      go_wp2_with fail
      go_ret
      exact ⟨rfl, HR.out⟩

set_option maxHeartbeats 1000000 in
theorem rdsigned_any (b : Nat) (x : Td.St) (w : World) (h : Rs w b x) (hx : x.1.length ≤ 1048576) :
    Calls Tryd.prog 58 #[.pointer (some ⟨b, 0, none⟩)] w (RsOut b w (.int .i64 (Td.sInt x).1) (Td.sInt x).2) := by
  have hg := getI_any ⟨x.1.toArray⟩ w (by rw [tg_size]; omega)
  rcases hG : Nm.getI x.1 with ⟨n, k, e0⟩
  have hG' : Nm.getI (⟨x.1.toArray⟩ : ByteArray).data.toList = (n, k, e0) := hG
  rw [hG'] at hg
  have hT : Td.sInt x = (if (Td.tk k e0 x).1 = true then n else 0, (Td.tk k e0 x).2) := by unfold Td.sInt; rw [hG]
  have ht := rdtake_any b k e0 x w h (fun q => by subst q; exact (Nm.getI_one hG).1) hx
  rw [hT]
  obtain ⟨c0, c1, f0, f1⟩ := h.cells
  generalize Td.tk k e0 x = T at *
  unfold RsOut at ht ⊢
  clear h hT hG hG' hx
  go_enter Tryd.func58, Tryd.ntmps58
  go_wp2_with fail
  refine hg.mono ?_
  rintro e u ⟨rfl, hu⟩
  obtain rfl := hu.symm
  clear hg hu
  go_wp2_with fail
  refine ht.mono ?_
  rintro e w2 ⟨rfl, r2, k2⟩
  have HR : Hid (Rs w2 b T.2 ∧ Kept (fun j => j ≠ b) w w2) := ⟨r2, k2⟩
  clear ht r2 k2
  obtain ⟨tb, x2⟩ := T
  dsimp only at *
  cases tb with
  | true =>
    go_wp2_with fail
    go_ret
    exact ⟨rfl, HR.out⟩
  | false =>
    go_wp2_with fail
    go_ret
    exact ⟨rfl, HR.out⟩

set_option maxHeartbeats 1000000 in
theorem rdtext_any (b : Nat) (x : Td.St) (w : World) (h : Rs w b x) (hx : x.1.length ≤ 1048576) :
    Calls Tryd.prog 56 #[.pointer (some ⟨b, 0, none⟩)] w (RsOut b w (.string ⟨(Td.sTxt x).1.toArray⟩) (Td.sTxt x).2) := by
  have hg := getT_any ⟨x.1.toArray⟩ w (by rw [tg_size]; omega)
  rcases hG : Nm.getT x.1 with ⟨n, k, e0⟩
  have hG' : Nm.getT (⟨x.1.toArray⟩ : ByteArray).data.toList = (n, k, e0) := hG
  rw [hG'] at hg
  have hT : Td.sTxt x = (if (Td.tk k e0 x).1 = true then n else [], (Td.tk k e0 x).2) := by unfold Td.sTxt; rw [hG]
  have ht := fun W (hW : Rs W b x) => rdtake_any b k e0 x W hW (fun q => by subst q; exact (Nm.getT_one hG).1) hx
  rw [hT]
  obtain ⟨c0, c1, f0, f1⟩ := h.cells
  generalize Td.tk k e0 x = T at *
  unfold RsOut at ht ⊢
  have H0 : Hid (Rs w b x) := h
  clear h hT hG hG' hx
  go_enter Tryd.func56, Tryd.ntmps56
  go_wp2_with fail
  refine hg.mono ?_
  rintro e w1 ⟨rfl, b1⟩
  have HK1 : Hid (Kept (fun j => j ≠ b) w w1) := Kept.of_below b1
  replace ht := ht w1 (H0.out.past b1)
  clear hg b1
  go_wp2_with fail
  refine ht.mono ?_
  rintro e w2 ⟨rfl, r2, k2⟩
  have HR : Hid (Rs w2 b T.2 ∧ Kept (fun j => j ≠ b) w w2) := ⟨r2, HK1.out.trans k2⟩
  clear ht r2 k2
  obtain ⟨tb, x2⟩ := T
  dsimp only at *
  cases tb with
  | true =>
    go_wp2_with fail
    go_ret
    exact ⟨rfl, HR.out⟩
  | false =>
    go_wp2_with fail
    go_ret
    exact ⟨rfl, HR.out⟩

theorem tg_take (l : List UInt8) (k : Nat) : (⟨l.toArray⟩ : ByteArray).extract 0 k = ⟨(l.take k).toArray⟩ := by
  apply ByteArray.ext
  apply Array.toList_inj.1
  rw [Lib.extract_data]
  simp

set_option maxHeartbeats 1000000 in
theorem rdbytes_any (b k : Nat) (x : Td.St) (w : World) (h : Rs w b x) (_hk : k ≤ 8) (hx : x.1.length ≤ 1048576) :
    Calls Tryd.prog 73 #[.pointer (some ⟨b, 0, none⟩), .int .i64 k] w (RsOut b w (.string ⟨(Td.sByt k x).1.toArray⟩) (Td.sByt k x).2) := by
  have hT : Td.sByt k x = (if (Td.tk k (Td.shE k x.1) x).1 = true then x.1.take k else [], (Td.tk k (Td.shE k x.1) x).2) := rfl
  have hE : Td.shE k x.1 = if x.1.length < k then 3 else 0 := rfl
  have hz : Td.shE k x.1 = 0 → k ≤ x.1.length := fun q => by
    rw [hE] at q
    split at q
    · cases q
    · omega
  have ht := rdtake_any b k (Td.shE k x.1) x w h hz hx
  have HTr : Hid ((Td.tk k (Td.shE k x.1) x).1 = true → k ≤ x.1.length) := fun q => hz (Td.tk_true q).2
  rw [hT]
  obtain ⟨c0, c1, f0, f1⟩ := h.cells
  generalize Td.tk k (Td.shE k x.1) x = T at *
  generalize Td.shE k x.1 = E at *
  obtain ⟨l, er⟩ := x
  dsimp only at *
  obtain ⟨s, hs⟩ : ∃ s : ByteArray, s = ⟨l.toArray⟩ := ⟨_, rfl⟩
  have hsz : s.size = l.length := by rw [hs]; exact tg_size l
  have HE : Hid (s.extract 0 k = ⟨(l.take k).toArray⟩) := by show _ = _; rw [hs]; exact tg_take l k
  rw [← hs] at c0
  rw [← hsz] at hE HTr hx
  unfold RsOut at ht ⊢
  clear h hT hs hsz hz
  go_enter Tryd.func73, Tryd.ntmps73
  by_cases h2 : s.size < k
  · rw [if_pos h2] at hE
    subst hE
    have q : (s.size : Int) < (k : Int) := by omega
    go_wp2_with fail
    refine ht.mono ?_
    rintro e w2 ⟨rfl, r2, k2⟩
    have HR : Hid (Rs w2 b T.2 ∧ Kept (fun j => j ≠ b) w w2) := ⟨r2, k2⟩
    clear ht r2 k2
    obtain ⟨tb, x2⟩ := T
    dsimp only at *
    cases tb with
    | true =>
      exact absurd (HTr.out rfl) (by omega)
    | false =>
      clear HTr
      go_wp2_with fail
      go_ret
      exact ⟨rfl, HR.out⟩
  · rw [if_neg h2] at hE
    subst hE
    have q : ¬ (s.size : Int) < (k : Int) := by omega
    go_wp2_with fail
    refine ht.mono ?_
    rintro e w2 ⟨rfl, r2, k2⟩
    have HR : Hid (Rs w2 b T.2 ∧ Kept (fun j => j ≠ b) w w2) := ⟨r2, k2⟩
    clear ht r2 k2
    obtain ⟨tb, x2⟩ := T
    dsimp only at *
    cases tb with
    | true =>
      have hks : (k : Int) ≤ (s.size : Int) := by have := HTr.out rfl; omega
      clear HTr
      go_wp2_with fail
      go_ret
      exact ⟨by rw [← HE.out]; rfl, HR.out⟩
    | false =>
      clear HTr
      go_wp2_with fail
      go_ret
      exact ⟨rfl, HR.out⟩

set_option maxHeartbeats 1000000 in
theorem rdkind_any (b : Nat) (x : Td.St) (w : World) (h : Rs w b x) (hx : x.1.length ≤ 1048576) :
    Calls Tryd.prog 57 #[.pointer (some ⟨b, 0, none⟩)] w (RsOut b w (.int .i64 (Td.sKind x).1) (Td.sKind x).2) := by
  have ht := rdbytes_any b 1 x w h (by omega) hx
  have hT : Td.sKind x = (((Td.sByt 1 x).1.headD 0).toNat, (Td.sByt 1 x).2) := rfl
  have hl := Td.sByt_bd 1 x
  rw [hT]
  generalize Td.sByt 1 x = T at *
  obtain ⟨y, x2⟩ := T
  unfold RsOut at ht ⊢
  dsimp only at *
  clear h hT hx
  match y, hl with
  | [], _ =>
    go_enter Tryd.func57, Tryd.ntmps57
    go_wp2_with fail
    refine ht.mono ?_
    rintro e w2 ⟨rfl, r2, k2⟩
    have HR : Hid (Rs w2 b x2 ∧ Kept (fun j => j ≠ b) w w2) := ⟨r2, k2⟩
    clear ht r2 k2
    go_wp2_with fail
    go_ret
    exact ⟨rfl, HR.out⟩
  | [c], _ =>
    obtain ⟨s, hs⟩ : ∃ s : ByteArray, s = ⟨[c].toArray⟩ := ⟨_, rfl⟩
    have hsz : 0 < s.size := by rw [hs, tg_size]; simp
    have e1 : (s.toList == []) = false := data_ne (by rw [hs]; simp)
    obtain ⟨c0, hc0⟩ : ∃ c0 : Nat, s[0].toNat = c0 := ⟨_, rfl⟩
    have HV : Hid (([c].headD 0).toNat = c0) := by show _ = _; rw [← hc0]; subst hs; rfl
    have hc : c0 < 256 := by rw [← hc0]; exact s[0].toNat_lt
    have hwc : wrap64 (c0 : Int) = (c0 : Int) := by unfold wrap64; omega
    rw [← hs] at ht
    clear hs
    go_enter Tryd.func57, Tryd.ntmps57
    go_wp2_with fail
    refine ht.mono ?_
    rintro e w2 ⟨rfl, r2, k2⟩
    have HR : Hid (Rs w2 b x2 ∧ Kept (fun j => j ≠ b) w w2) := ⟨r2, k2⟩
    clear ht r2 k2
    go_wp2_with fail
    go_ret
    exact ⟨by rw [HV.out]; rfl, HR.out⟩
end Go.Proofs.YtcgecafajgoeeaaDoor

namespace Go.Proofs.YtcgecafajgoeeaaDoor
open Go.RowKit
set_option maxRecDepth 4000

abbrev Tz8 : Array Value := #[.int .u8 0, .int .u8 0, .int .u8 0, .int .u8 0, .int .u8 0, .int .u8 0, .int .u8 0, .int .u8 0]
theorem Kept.then {p : Nat → Prop} {A B C : World} {n : Nat} (h : Kept p A B) (hb : Below n B C) (hn : A.heap.size ≤ n) : Kept p A C :=
  ⟨hb.os.trans h.os, hb.tape.trans h.tape, hb.output.trans h.output, Nat.le_trans h.size hb.size, fun k hk hp => (hb.block k (by omega)).trans (h.block k hk hp)⟩
theorem tid_info : (Tryd.prog.info? 49).map (fun i => (i.zero, i.size, i.bytes)) = some (some (.agg Tz8), 8, 8) := by kernel_rfl
/-- the world behind the copy of y into block M -/
def cpW (W : World) (M : Nat) (y : List UInt8) : World := W.setCells M 0 (y.map B)
theorem cpW_cells {W : World} {M : Nat} {y : List UInt8} (h : W.heap[M]? = some (.cells Tz8 49 (0, 0))) (hy : y = [] ∨ y.length = 8) : (cpW W M y).heap[M]? = some (.cells (idC (Td.eight y)).toArray 49 (0, 0)) := by
  rcases hy with rfl | hy
  · exact h
  · rw [Td.eight_id hy]
    match y, hy with
    | [b0, b1, b2, b3, b4, b5, b6, b7], _ => simp [cpW, World.setCells, World.setCell, Array.getElem?_modify, h, idC]
theorem cpW_below {W : World} {M : Nat} {y : List UInt8} (hy : y = [] ∨ y.length = 8) : Below M W (cpW W M y) := by
  rcases hy with rfl | hy
  · exact Below.refl _ _
  · match y, hy with
    | [b0, b1, b2, b3, b4, b5, b6, b7], _ =>
      exact ((((((((Below.refl M W).setCell (p := ⟨M, 0, none⟩) (Nat.le_refl _) _).setCell (p := ⟨M, 1, none⟩) (Nat.le_refl _) _).setCell (p := ⟨M, 2, none⟩) (Nat.le_refl _) _).setCell (p := ⟨M, 3, none⟩) (Nat.le_refl _) _).setCell (p := ⟨M, 4, none⟩) (Nat.le_refl _) _).setCell (p := ⟨M, 5, none⟩) (Nat.le_refl _) _).setCell (p := ⟨M, 6, none⟩) (Nat.le_refl _) _).setCell (p := ⟨M, 7, none⟩) (Nat.le_refl _) _
theorem cpW_run {W : World} {M : Nat} {y : List UInt8} (h : W.heap[M]? = some (.cells Tz8 49 (0, 0))) (hy : y.length ≤ 8) :
    (Builtin.copy_ #[41, 9] 3 #[.slice (some ⟨M, 0, none⟩) 8 8, .string ⟨y.toArray⟩]).run Tryd.prog W = .ok (.int .i64 y.length) (cpW W M y) := by
  have hz : ∀ w, (Go.sizeOf 5).run Tryd.prog w = .ok 1 w := fun w => by go_simp
  have hc : ∀ j, j < 8 → W.cell? ⟨M, j, none⟩ = some (.int .u8 0) := fun j hj => by
    rw [cell_of_row _ M j _ _ _ h, show Tz8 = Array.replicate 8 (Value.int .u8 0) from rfl, Array.getElem?_replicate, if_pos hj]
  have hr := run_copy_string (P := Tryd.prog) W 41 9 3 5 M 0 8 8 ⟨y.toArray⟩ (by kernel_rfl) hz (by rw [tg_size]; exact hy) (fun j hj => by rw [tg_size] at hj; rw [hc _ (by omega)]; rfl) (fun j _ => by simp [World.frozen?, h])
  rw [tg_size] at hr
  exact hr
theorem sByt_form (x : Td.St) (k : Nat) : (Td.sByt k x).1 = [] ∨ (Td.sByt k x).1.length = k := by
  unfold Td.sByt
  simp only
  split
  · rename_i h
    obtain ⟨_, h2⟩ := Td.tk_true h
    unfold Td.shE at h2
    split at h2
    · cases h2
    · refine .inr ?_
      rw [List.length_take]
      omega
  · exact .inl rfl
theorem tg_new8 (W : World) (v0 v1 v2 v3 v4 v5 v6 v7 : Value) {T : TypeId} : ∀ j u, [v0, v1, v2, v3, v4, v5, v6, v7][j]? = some u → (W.alloc (.cells #[v0, v1, v2, v3, v4, v5, v6, v7] T)).cell? ((⟨W.heap.size, 0, none⟩ : Addr).add j) = some u := by
  intro j u hj
  rw [show ((⟨W.heap.size, 0, none⟩ : Addr).add j) = ⟨W.heap.size, j, none⟩ from by unfold Addr.add; split <;> simp_all]
  match j, hj with
  | 0, hj => simp at hj; subst hj; simp
  | 1, hj => simp at hj; subst hj; simp
  | 2, hj => simp at hj; subst hj; simp
  | 3, hj => simp at hj; subst hj; simp
  | 4, hj => simp at hj; subst hj; simp
  | 5, hj => simp at hj; subst hj; simp
  | 6, hj => simp at hj; subst hj; simp
  | 7, hj => simp at hj; subst hj; simp
/-- what parts answers -/
def PtOut (b : Nat) (w : World) (x : Td.St) (e : Ending) (w' : World) : Prop :=
  ∃ v, e = .returned v ∧ w'.ownsRow w.heap.size 49 8 v (Td.sParts x).1.length (rowR idC (Td.sParts x).1) ∧ Rs w' b (Td.sParts x).2 ∧ Kept (fun j => j ≠ b) w w'

set_option maxHeartbeats 4000000 in
set_option maxRecDepth 10000 in
theorem rdparts_any (b : Nat) (x : Td.St) (w : World) (h : Rs w b x) (hx : x.1.length ≤ 1048576) :
    Calls Tryd.prog 59 #[.pointer (some ⟨b, 0, none⟩)] w (PtOut b w x) := by
  unfold PtOut
  obtain ⟨i0, hi, hz0, hz1, hz2⟩ := info_of' tid_info
  have hg := rdnumber_any b 300 x w h (by omega) hx
  have hS : Td.sParts x = Td.sIds (Td.sNum 300 x).1 (Td.sNum 300 x).2 := rfl
  have hnp := Td.sNum_most 300 x
  have hl1 := Td.sNum_len 300 x
  rw [hS]
  rcases hN : Td.sNum 300 x with ⟨np, x1⟩
  rw [hN] at hg hnp hl1
  dsimp only at *
  unfold RsOut at hg
  have HB : Hid (b < w.heap.size) := h.lt
  have HL : Hid (∀ k, (Td.sIds k x1).2.1.length ≤ 1048576) := fun k => by have := Td.sIds_len x1 k; omega
  have HSt : Hid (∀ k, Td.sIds (k + 1) x1 = ((Td.sIds k x1).1 ++ [Td.eight (Td.sByt 8 (Td.sIds k x1).2).1], (Td.sByt 8 (Td.sIds k x1).2).2)) := fun k => rfl
  have HLn : Hid (∀ k, (Td.sIds k x1).1.length = k) := fun k => (Td.sIds_bd x1 k).1
  have H0 : Hid (Td.sIds 0 x1 = ([], x1)) := rfl
  clear h hS hN hx hl1
  go_enter Tryd.func59, Tryd.ntmps59
  go_wp2_with fail
  refine hg.mono ?_
  rintro e w1 ⟨rfl, r1, k1⟩
  have HR1 : Hid (Rs w1 b x1) := r1
  have HK1 : Hid (Kept (fun j => j ≠ b) w w1) := k1
  clear hg r1 k1
  go_wp2_with fail
  go_loopw [3, 7] (fun vo i wr => ∃ k : Nat, k ≤ np ∧ i = .int .i64 k ∧ Hid (Rs wr b (Td.sIds k x1).2) ∧ Hid (wr.ownsRow w.heap.size 49 8 vo k (rowR idC (Td.sIds k x1).1)) ∧ Hid (Kept (fun j => j ≠ b) w wr)) (fun _ i _ => np - (intOf i).toNat)
  case atStart => exact ⟨0, by omega, rfl, HR1, World.ownsRow_nil _ _ _ _, HK1⟩
  case round =>
    clear HR1 HK1
    obtain ⟨k, hk, rfl, HR, HO, HK⟩ := hrel
    obtain ⟨so, co, hvo⟩ := own_len HO.out
    subst hvo
    by_cases hlt : k < np
    · have hst := HSt.out k
      have hlk := HL.out k
      have HLk : Hid ((Td.sIds k x1).1.length = k) := HLn.out k
      have hy8 := Td.sByt_bd 8 (Td.sIds k x1).2
      have hyf := sByt_form (Td.sIds k x1).2 8
      obtain ⟨W1, hW1⟩ : ∃ W1, W1 = wr.alloc (.cells Tz8 49) := ⟨_, rfl⟩
      have hB1 : Below wr.heap.size wr W1 := by rw [hW1]; exact (Below.refl _ wr).alloc (Nat.le_refl _) _
      have HM1 : Hid (W1.heap[wr.heap.size]? = some (.cells Tz8 49 (0, 0))) := by rw [hW1]; exact heap_alloc_new wr _
      have hby := fun W (hW : Rs W b (Td.sIds k x1).2) => rdbytes_any b 8 (Td.sIds k x1).2 W hW (by omega) hlk
      unfold RsOut at hby
      have HR1 : Hid (Rs W1 b (Td.sIds k x1).2) := HR.out.past hB1
      generalize Td.sByt 8 (Td.sIds k x1).2 = Y at *
      obtain ⟨y, x2⟩ := Y
      dsimp only at *
      obtain ⟨M, hM⟩ : ∃ M, M = wr.heap.size := ⟨_, rfl⟩
      go_upto_region 5 with fail
      rw [← hW1, ← hM]
      clear hW1
      have HB1 : Hid (Below wr.heap.size wr W1) := hB1
      have HMe : Hid (M = wr.heap.size) := hM
      rw [← hM] at HM1
      have HMb : Hid (M ≠ b) := by have h1 := HB.out; have h2 := HK.out.size; show _ ≠ _; omega
      clear hM hB1 HR
      have hcp := fun (W : World) (hW : W.heap[M]? = some (.cells Tz8 49 (0, 0))) => cpW_run (y := y) hW hy8
      have hby1 := hby W1.drew (show Rs W1.drew b (Td.sIds k x1).2 from HR1.out)
      clear hby
      go_region_with (go_at_call 73; refine hby1.mono ?_; rintro e w2 ⟨rfl, r2, k2⟩; have HK2 : Hid (Kept (fun j => j ≠ b) W1 w2) := ⟨k2.os, k2.tape, k2.output, k2.size, k2.block⟩; have HR2 : Hid (Rs w2 b x2) := r2; have hcp2 := hcp w2 (HK2.out.obj HMb.out HM1.out); clear r2 k2)
      obtain ⟨W3, hW3⟩ : ∃ W3, W3 = cpW w2 M y := ⟨_, rfl⟩
      have hB3 : Below M w2 W3 := by rw [hW3]; exact cpW_below hyf
      have HM3 : Hid (W3.heap[M]? = some (.cells (idC (Td.eight y)).toArray 49 (0, 0))) := by rw [hW3]; exact cpW_cells (HK2.out.obj HMb.out HM1.out) hyf
      have hbM : b < M := by have h1 := HB.out; have h2 := HK.out.size; have h3 := HMe.out; omega
      have HR3 : Hid (Rs W3 b (Td.sIds (k + 1) x1).2) := by rw [hst]; exact (hB3.block b hbM).trans HR2.out
      have o2 : w2.ownsRow w.heap.size 49 8 (.slice so k co) k (rowR idC (Td.sIds k x1).1) := own_kept (own_below HO.out HB1.out) HK2.out fun g hg => by have := (own_block HO.out hg).choose_spec.2.1; have := HB.out; omega
      have o3 : W3.ownsRow w.heap.size 49 8 (.slice so k co) k (rowR idC (Td.sIds k x1).1) := own_kept o2 (Kept.of_below_at (p := fun j => j < M) hB3 fun _ q => q) fun g hg => by have := (own_block HO.out hg).choose_spec.2.2; rw [HMe.out]; exact this
      have HK3 : Hid (Kept (fun j => j ≠ b) w W3) := ((HK.out.trans (Kept.of_below HB1.out)).trans HK2.out).then hB3 (by rw [HMe.out]; exact HK.out.size)
      have hsz3 : w.heap.size ≤ W3.heap.size := HK3.out.size
      obtain ⟨b0, b1, b2, b3, b4, b5, b6, b7, hE8⟩ : ∃ b0 b1 b2 b3 b4 b5 b6 b7, Td.eight y = [b0, b1, b2, b3, b4, b5, b6, b7] := by
        have h8 := Td.eight_len hy8
        match Td.eight y, h8 with
        | [b0, b1, b2, b3, b4, b5, b6, b7], _ => exact ⟨b0, b1, b2, b3, b4, b5, b6, b7, rfl⟩
      have HId : Hid ((Td.sIds (k + 1) x1).1 = (Td.sIds k x1).1 ++ [[b0, b1, b2, b3, b4, b5, b6, b7]]) := by show _ = _; rw [hst, hE8]
      rw [hE8] at HM3
      have z0 : W3.cell? ⟨M, 0, none⟩ = some (.int .u8 (b0.toNat : Int)) := by rw [cell_of_row _ M 0 _ _ _ HM3.out]; rfl
      have z1 : W3.cell? ⟨M, 1, none⟩ = some (.int .u8 (b1.toNat : Int)) := by rw [cell_of_row _ M 1 _ _ _ HM3.out]; rfl
      have z2 : W3.cell? ⟨M, 2, none⟩ = some (.int .u8 (b2.toNat : Int)) := by rw [cell_of_row _ M 2 _ _ _ HM3.out]; rfl
      have z3 : W3.cell? ⟨M, 3, none⟩ = some (.int .u8 (b3.toNat : Int)) := by rw [cell_of_row _ M 3 _ _ _ HM3.out]; rfl
      have z4 : W3.cell? ⟨M, 4, none⟩ = some (.int .u8 (b4.toNat : Int)) := by rw [cell_of_row _ M 4 _ _ _ HM3.out]; rfl
      have z5 : W3.cell? ⟨M, 5, none⟩ = some (.int .u8 (b5.toNat : Int)) := by rw [cell_of_row _ M 5 _ _ _ HM3.out]; rfl
      have z6 : W3.cell? ⟨M, 6, none⟩ = some (.int .u8 (b6.toNat : Int)) := by rw [cell_of_row _ M 6 _ _ _ HM3.out]; rfl
      have z7 : W3.cell? ⟨M, 7, none⟩ = some (.int .u8 (b7.toNat : Int)) := by rw [cell_of_row _ M 7 _ _ _ HM3.out]; rfl
      rw [← hW3]
      clear hW3 hB3 HM3 HR2 o2 hcp2 HK2 hby1 hcp hst hlk hy8 hyf hE8 HR1 HM1 HB1 HO HK HMe HMb hbM
      obtain ⟨RW, hr⟩ : ∃ RW, rowR idC (Td.sIds k x1).1 = RW := ⟨_, rfl⟩
      have HRW : Hid (rowR idC (Td.sIds k x1).1 = RW) := hr
      rw [hr] at o3
      clear hr
      go_wp2_with (at_builtin; refine wpList_append_own _ rfl (.tmp 13) (.tmp 15) 30 rfl w.heap.size 49 i0 (.agg Tz8) 8 8 Tryd.underlying30 hi hz0 hz1 hz2 rfl (by decide) _ _ _ rfl (o3.alloc _) ⟨W3.heap.size, 0, none⟩ 1 1 [.int .u8 (b0.toNat : Int), .int .u8 (b1.toNat : Int), .int .u8 (b2.toNat : Int), .int .u8 (b3.toNat : Int), .int .u8 (b4.toNat : Int), .int .u8 (b5.toNat : Int), .int .u8 (b6.toNat : Int), .int .u8 (b7.toNat : Int)] rfl rfl (tg_new8 W3 _ _ _ _ _ _ _ _) ?c2 ?c3 ?c4 ?c5 ?_)
      case c2 => simp [Value.oneCell']
      case c3 => unfold maxLen; omega
      case c4 => omega
      case c5 => first | omega | (simp; omega)
      intro v6 w5 o5 hgrow _
      have hb3 : Below W3.heap.size W3 (W3.alloc (.cells #[.int .u8 (b0.toNat : Int), .int .u8 (b1.toNat : Int), .int .u8 (b2.toNat : Int), .int .u8 (b3.toNat : Int), .int .u8 (b4.toNat : Int), .int .u8 (b5.toNat : Int), .int .u8 (b6.toNat : Int), .int .u8 (b7.toNat : Int)] 49)) := (Below.refl _ W3).alloc (Nat.le_refl _) _
      have hlt3 : ∀ g, (Value.slice so k co).ownBlock = some g → w.heap.size ≤ g := fun g hg => (own_block o3 hg).choose_spec.2.1
      have HO5 : Hid (w5.ownsRow w.heap.size 49 8 v6 (k + 1) (rowR idC (Td.sIds (k + 1) x1).1)) := by
        show World.ownsRow _ _ _ _ _ _ _
        rw [HId.out, rowR_more, HRW.out]
        exact o5
      have HR5 : Hid (Rs w5 b (Td.sIds (k + 1) x1).2) := by
        refine (hgrow.block b (Nat.lt_of_lt_of_le HR3.out.lt hb3.size) fun e => ?_).trans (HR3.out.past hb3)
        have := hlt3 b e.symm
        have := HB.out
        omega
      have HK5 : Hid (Kept (fun j => j ≠ b) w w5) := by
        have hz : Kept (fun j => j ≠ b) w (W3.alloc (.cells #[.int .u8 (b0.toNat : Int), .int .u8 (b1.toNat : Int), .int .u8 (b2.toNat : Int), .int .u8 (b3.toNat : Int), .int .u8 (b4.toNat : Int), .int .u8 (b5.toNat : Int), .int .u8 (b6.toNat : Int), .int .u8 (b7.toNat : Int)] 49)) := HK3.out.alloc _
        exact ⟨hgrow.os.trans hz.os, hgrow.tape.trans hz.tape, hgrow.output.trans hz.output, Nat.le_trans hz.size hgrow.size, fun j hj hp => (hgrow.block j (Nat.lt_of_lt_of_le hj hz.size) fun e => by have := hlt3 j e.symm; omega).trans (hz.block j hj hp)⟩
      clear o5 hgrow o3 hb3 hlt3 HR3 HK3 HId HRW z0 z1 z2 z3 z4 z5 z6 z7
      go_wp2_with fail
      go_roundw
      case measure => simp only [intOf]; omega
      case rel => exact ⟨k + 1, by omega, by go_num, HR5, HO5, HK5⟩
    · obtain rfl : k = np := by omega
      have HLk : Hid ((Td.sIds k x1).1.length = k) := HLn.out k
      go_wp2_with fail
      go_ret
      exact ⟨_, rfl, by rw [HLk.out]; exact HO.out, HR.out, HK.out⟩
end Go.Proofs.YtcgecafajgoeeaaDoor

namespace Go.Proofs.YtcgecafajgoeeaaDoor
open Go.RowKit
set_option maxRecDepth 4000

/-- two nodes in blocks of their own: the answer, and the one that is filled; a reader in block br -/
structure R3 (w W : World) (br b : Nat) (x0 x1 x2 x3 x4 x5 x6 : Value) : Prop where
  res : W.heap[b]? = some (.cells #[.string ⟨#[]⟩, .int .i64 0, .int .i64 0, .int .i64 0, .int .i64 0, .slice none 0 0, .string ⟨#[]⟩] 32 (0, 0))
  str : W.heap[b + 1]? = some (.cells #[x0, x1, x2, x3, x4, x5, x6] 32 (0, 0))
  kept : Kept (fun j => j ≠ br) w W
  at_ : w.heap.size = b
  lt : br < b
section
variable {w W W' : World} {br b : Nat} {x0 x1 x2 x3 x4 x5 x6 y : Value} {x : Td.St}
theorem R3.past (h : R3 w W br b x0 x1 x2 x3 x4 x5 x6) (hk : Kept (fun j => j ≠ br) W W') : R3 w W' br b x0 x1 x2 x3 x4 x5 x6 :=
  ⟨hk.obj (by have := h.lt; omega) h.res, hk.obj (by have := h.lt; omega) h.str, h.kept.trans hk, h.at_, h.lt⟩
theorem R3.setAt (h : R3 w W br b x0 x1 x2 x3 x4 x5 x6) (j : Nat) (y : Value) {y0 y1 y2 y3 y4 y5 y6 : Value} (e : (#[x0, x1, x2, x3, x4, x5, x6] : Array Value).setIfInBounds j y = #[y0, y1, y2, y3, y4, y5, y6]) :
    R3 w (W.setCell ⟨b + 1, j, none⟩ y) br b y0 y1 y2 y3 y4 y5 y6 := by
  refine ⟨?_, ?_, h.kept.then ((Below.refl (b + 1) W).setCell (p := ⟨b + 1, j, none⟩) (Nat.le_refl _) _) (by have := h.at_; omega), h.at_, h.lt⟩
  · rw [Below.heap_setCell _ _ _ _ (by simp)]; exact h.res
  · rw [← e]
    simp [World.setCell, Array.getElem?_modify, h.str]
theorem R3.rs (h : R3 w W br b x0 x1 x2 x3 x4 x5 x6) (hr : Rs W br x) (j : Nat) (y : Value) : Rs (W.setCell ⟨b + 1, j, none⟩ y) br x := by
  unfold Rs
  rw [Below.heap_setCell _ _ _ _ (by have := h.lt; simp; omega)]
  exact hr
end
/-- what node answers -/
def NoOut (br : Nat) (w : World) (x : Td.St) (e : Ending) (w' : World) : Prop :=
  ∃ (n : Nod) (v : Value), e = .returned (ndV n v) ∧ n.nd = (Td.sNode x).1 ∧ w'.ownsRow w.heap.size 49 8 v n.parts.length (rowR idC n.parts) ∧ n.Ok ∧ Rs w' br (Td.sNode x).2 ∧ Kept (fun j => j ≠ br) w w'

set_option maxHeartbeats 8000000 in
set_option maxRecDepth 10000 in
theorem rdnode_any (br : Nat) (x : Td.St) (w : World) (h : Rs w br x) (hx : x.1.length ≤ 1048576) :
    Calls Tryd.prog 42 #[.pointer (some ⟨br, 0, none⟩)] w (NoOut br w x) := by
  unfold NoOut
  obtain ⟨R, hR⟩ : ∃ R, Td.sNode x = R := ⟨_, rfl⟩
  have HR : Hid (Td.sNode x = R) := hR
  rw [hR]
  clear hR
  obtain ⟨W0, hW0⟩ : ∃ W0, W0 = (w.alloc (.cells #[.string ⟨#[]⟩, .int .i64 0, .int .i64 0, .int .i64 0, .int .i64 0, .slice none 0 0, .string ⟨#[]⟩] 32)).alloc (.cells #[.string ⟨#[]⟩, .int .i64 0, .int .i64 0, .int .i64 0, .int .i64 0, .slice none 0 0, .string ⟨#[]⟩] 32) := ⟨_, rfl⟩
  have hB0 : Below w.heap.size w W0 := by rw [hW0]; exact ((Below.refl _ w).alloc (Nat.le_refl _) _).alloc (by simp) _
  have HA : Hid (R3 w W0 br w.heap.size (.string ⟨#[]⟩) (.int .i64 0) (.int .i64 0) (.int .i64 0) (.int .i64 0) (.slice none 0 0) (.string ⟨#[]⟩)) := by
    refine ⟨?_, ?_, Kept.of_below hB0, rfl, h.lt⟩
    · rw [hW0]
      exact ((Below.refl _ (w.alloc (.cells #[.string ⟨#[]⟩, .int .i64 0, .int .i64 0, .int .i64 0, .int .i64 0, .slice none 0 0, .string ⟨#[]⟩] 32))).alloc (Nat.le_refl _) _).block w.heap.size (by simp) ▸ heap_alloc_new w _
    · rw [hW0]
      have := heap_alloc_new (w.alloc (.cells #[.string ⟨#[]⟩, .int .i64 0, .int .i64 0, .int .i64 0, .int .i64 0, .slice none 0 0, .string ⟨#[]⟩] 32)) (.cells #[.string ⟨#[]⟩, .int .i64 0, .int .i64 0, .int .i64 0, .int .i64 0, .slice none 0 0, .string ⟨#[]⟩] 32)
      simpa using this
  have HRs : Hid (Rs W0 br x) := h.past hB0
  clear hB0 h
  obtain ⟨b, hb⟩ : ∃ b, b = w.heap.size := ⟨_, rfl⟩
  have HWb : Hid (b = w.heap.size) := hb
  rw [← hb] at HA
  go_enter Tryd.func42, Tryd.ntmps42
  go_upto_region 2 with fail
  rw [← hW0, ← hb]
  clear hW0 hb
  have hcall := rdtext_any br x W0 HRs.out hx
  have hbd0 := Td.sTxt_bd x
  have hln := Td.sTxt_len x
  unfold RsOut at hcall
  rcases hE : Td.sTxt x with ⟨t0, x1⟩
  rw [hE] at hcall hbd0 hln
  have HE0 : Hid (Td.sTxt x = (t0, x1)) := hE
  replace hx : x1.1.length ≤ 1048576 := Nat.le_trans hln hx
  dsimp only at hcall hbd0
  clear hE hln
  go_wp2_with fail
  refine hcall.mono ?_
  rintro e w1 ⟨rfl, r0, k0⟩
  have HP := HA.out.past k0
  obtain ⟨c_0, c_1, c_2, c_3, c_4, c_5, c_6⟩ := seven_at HP.str
  obtain ⟨z_0, z_1, z_2, z_3, z_4, z_5, z_6⟩ := seven_fz HP.str
  obtain ⟨WN, hWN⟩ : ∃ WN, WN = w1.setCell ⟨b + 1, 0, none⟩ (.string ⟨t0.toArray⟩) := ⟨_, rfl⟩
  have HA' : Hid (R3 w WN br b (.string ⟨t0.toArray⟩) (.int .i64 0) (.int .i64 0) (.int .i64 0) (.int .i64 0) (.slice none 0 0) (.string ⟨#[]⟩)) := by rw [hWN]; exact HP.setAt 0 _ rfl
  have HRs' : Hid (Rs WN br x1) := by rw [hWN]; exact HP.rs r0 0 _
  clear HP hcall HA HRs r0 k0
  go_upto_region 3 with fail
  rw [← hWN]
  clear hWN c_0 c_1 c_2 c_3 c_4 c_5 c_6 z_0 z_1 z_2 z_3 z_4 z_5 z_6 w1
  have HA := HA'
  have HRs := HRs'
  clear HA' HRs'
  generalize WN = V1 at *
  have hcall := rdkind_any br x1 V1 HRs.out hx
  have hbd1 := Td.sKind_bd x1
  have hln := Td.sKind_len x1
  unfold RsOut at hcall
  rcases hE : Td.sKind x1 with ⟨t1, x2⟩
  rw [hE] at hcall hbd1 hln
  have HE1 : Hid (Td.sKind x1 = (t1, x2)) := hE
  replace hx : x2.1.length ≤ 1048576 := Nat.le_trans hln hx
  dsimp only at hcall hbd1
  clear hE hln
  go_wp2_with fail
  refine hcall.mono ?_
  rintro e w2 ⟨rfl, r1, k1⟩
  have HP := HA.out.past k1
  obtain ⟨c_0, c_1, c_2, c_3, c_4, c_5, c_6⟩ := seven_at HP.str
  obtain ⟨z_0, z_1, z_2, z_3, z_4, z_5, z_6⟩ := seven_fz HP.str
  obtain ⟨WN, hWN⟩ : ∃ WN, WN = w2.setCell ⟨b + 1, 1, none⟩ (.int .i64 (t1 : Nat)) := ⟨_, rfl⟩
  have HA' : Hid (R3 w WN br b (.string ⟨t0.toArray⟩) (.int .i64 (t1 : Nat)) (.int .i64 0) (.int .i64 0) (.int .i64 0) (.slice none 0 0) (.string ⟨#[]⟩)) := by rw [hWN]; exact HP.setAt 1 _ rfl
  have HRs' : Hid (Rs WN br x2) := by rw [hWN]; exact HP.rs r1 1 _
  clear HP hcall HA HRs r1 k1
  go_upto_region 4 with fail
  rw [← hWN]
  clear hWN c_0 c_1 c_2 c_3 c_4 c_5 c_6 z_0 z_1 z_2 z_3 z_4 z_5 z_6 w2
  have HA := HA'
  have HRs := HRs'
  clear HA' HRs'
  generalize WN = V2 at *
  have hcall := rdnumber_any br 511 x2 V2 HRs.out (by omega) hx
  have hbd2 := Td.sNum_most 511 x2
  have hln := Td.sNum_len 511 x2
  unfold RsOut at hcall
  rcases hE : Td.sNum 511 x2 with ⟨t2, x3⟩
  rw [hE] at hcall hbd2 hln
  have HE2 : Hid (Td.sNum 511 x2 = (t2, x3)) := hE
  replace hx : x3.1.length ≤ 1048576 := Nat.le_trans hln hx
  dsimp only at hcall hbd2
  clear hE hln
  go_wp2_with fail
  refine hcall.mono ?_
  rintro e w3 ⟨rfl, r2, k2⟩
  have HP := HA.out.past k2
  obtain ⟨c_0, c_1, c_2, c_3, c_4, c_5, c_6⟩ := seven_at HP.str
  obtain ⟨z_0, z_1, z_2, z_3, z_4, z_5, z_6⟩ := seven_fz HP.str
  obtain ⟨WN, hWN⟩ : ∃ WN, WN = w3.setCell ⟨b + 1, 2, none⟩ (.int .i64 (t2 : Nat)) := ⟨_, rfl⟩
  have HA' : Hid (R3 w WN br b (.string ⟨t0.toArray⟩) (.int .i64 (t1 : Nat)) (.int .i64 (t2 : Nat)) (.int .i64 0) (.int .i64 0) (.slice none 0 0) (.string ⟨#[]⟩)) := by rw [hWN]; exact HP.setAt 2 _ rfl
  have HRs' : Hid (Rs WN br x3) := by rw [hWN]; exact HP.rs r2 2 _
  clear HP hcall HA HRs r2 k2
  go_upto_region 5 with fail
  rw [← hWN]
  clear hWN c_0 c_1 c_2 c_3 c_4 c_5 c_6 z_0 z_1 z_2 z_3 z_4 z_5 z_6 w3
  have HA := HA'
  have HRs := HRs'
  clear HA' HRs'
  generalize WN = V3 at *
  have hcall := rdsigned_any br x3 V3 HRs.out hx
  have hbd3 := Td.sInt_bd x3
  have hln := Td.sInt_len x3
  unfold RsOut at hcall
  rcases hE : Td.sInt x3 with ⟨t3, x4⟩
  rw [hE] at hcall hbd3 hln
  have HE3 : Hid (Td.sInt x3 = (t3, x4)) := hE
  replace hx : x4.1.length ≤ 1048576 := Nat.le_trans hln hx
  dsimp only at hcall hbd3
  clear hE hln
  go_wp2_with fail
  refine hcall.mono ?_
  rintro e w4 ⟨rfl, r3, k3⟩
  have HP := HA.out.past k3
  obtain ⟨c_0, c_1, c_2, c_3, c_4, c_5, c_6⟩ := seven_at HP.str
  obtain ⟨z_0, z_1, z_2, z_3, z_4, z_5, z_6⟩ := seven_fz HP.str
  obtain ⟨WN, hWN⟩ : ∃ WN, WN = w4.setCell ⟨b + 1, 3, none⟩ (.int .i64 t3) := ⟨_, rfl⟩
  have HA' : Hid (R3 w WN br b (.string ⟨t0.toArray⟩) (.int .i64 (t1 : Nat)) (.int .i64 (t2 : Nat)) (.int .i64 t3) (.int .i64 0) (.slice none 0 0) (.string ⟨#[]⟩)) := by rw [hWN]; exact HP.setAt 3 _ rfl
  have HRs' : Hid (Rs WN br x4) := by rw [hWN]; exact HP.rs r3 3 _
  clear HP hcall HA HRs r3 k3
  go_upto_region 6 with fail
  rw [← hWN]
  clear hWN c_0 c_1 c_2 c_3 c_4 c_5 c_6 z_0 z_1 z_2 z_3 z_4 z_5 z_6 w4
  have HA := HA'
  have HRs := HRs'
  clear HA' HRs'
  generalize WN = V4 at *
  have hcall := rdnumber_any br 4096 x4 V4 HRs.out (by omega) hx
  have hbd4 := Td.sNum_most 4096 x4
  have hln := Td.sNum_len 4096 x4
  unfold RsOut at hcall
  rcases hE : Td.sNum 4096 x4 with ⟨t4, x5⟩
  rw [hE] at hcall hbd4 hln
  have HE4 : Hid (Td.sNum 4096 x4 = (t4, x5)) := hE
  replace hx : x5.1.length ≤ 1048576 := Nat.le_trans hln hx
  dsimp only at hcall hbd4
  clear hE hln
  go_wp2_with fail
  refine hcall.mono ?_
  rintro e w5 ⟨rfl, r4, k4⟩
  have HP := HA.out.past k4
  obtain ⟨c_0, c_1, c_2, c_3, c_4, c_5, c_6⟩ := seven_at HP.str
  obtain ⟨z_0, z_1, z_2, z_3, z_4, z_5, z_6⟩ := seven_fz HP.str
  obtain ⟨WN, hWN⟩ : ∃ WN, WN = w5.setCell ⟨b + 1, 4, none⟩ (.int .i64 (t4 : Nat)) := ⟨_, rfl⟩
  have HA' : Hid (R3 w WN br b (.string ⟨t0.toArray⟩) (.int .i64 (t1 : Nat)) (.int .i64 (t2 : Nat)) (.int .i64 t3) (.int .i64 (t4 : Nat)) (.slice none 0 0) (.string ⟨#[]⟩)) := by rw [hWN]; exact HP.setAt 4 _ rfl
  have HRs' : Hid (Rs WN br x5) := by rw [hWN]; exact HP.rs r4 4 _
  clear HP hcall HA HRs r4 k4
  go_upto_region 7 with fail
  rw [← hWN]
  clear hWN c_0 c_1 c_2 c_3 c_4 c_5 c_6 z_0 z_1 z_2 z_3 z_4 z_5 z_6 w5
  have HA := HA'
  have HRs := HRs'
  clear HA' HRs'
  generalize WN = V5 at *
  have hcall := rdparts_any br x5 V5 HRs.out hx
  have hbd5 := Td.sParts_bd x5
  have hln := Td.sParts_len x5
  unfold PtOut at hcall
  rcases hE : Td.sParts x5 with ⟨t5, x6⟩
  rw [hE] at hcall hbd5 hln
  have HE5 : Hid (Td.sParts x5 = (t5, x6)) := hE
  replace hx : x6.1.length ≤ 1048576 := Nat.le_trans hln hx
  dsimp only at hcall hbd5
  clear hE hln
  go_wp2_with fail
  refine hcall.mono ?_
  rintro e w6 ⟨v5, rfl, o5, r5, k5⟩
  obtain ⟨a5, c5, rfl⟩ := own_len o5
  have HO : Hid (w6.ownsRow (b + 2) 49 8 (.slice a5 t5.length c5) t5.length (rowR idC t5)) := own_lower o5 (Array.getElem?_eq_some_iff.1 HA.out.str).1
  have HP := HA.out.past k5
  obtain ⟨c_0, c_1, c_2, c_3, c_4, c_5, c_6⟩ := seven_at HP.str
  obtain ⟨z_0, z_1, z_2, z_3, z_4, z_5, z_6⟩ := seven_fz HP.str
  obtain ⟨WN, hWN⟩ : ∃ WN, WN = w6.setCell ⟨b + 1, 5, none⟩ (.slice a5 t5.length c5) := ⟨_, rfl⟩
  have HA' : Hid (R3 w WN br b (.string ⟨t0.toArray⟩) (.int .i64 (t1 : Nat)) (.int .i64 (t2 : Nat)) (.int .i64 t3) (.int .i64 (t4 : Nat)) (.slice a5 t5.length c5) (.string ⟨#[]⟩)) := by rw [hWN]; exact HP.setAt 5 _ rfl
  have HRs' : Hid (Rs WN br x6) := by rw [hWN]; exact HP.rs r5 5 _
  have HO' : Hid (WN.ownsRow (b + 2) 49 8 (.slice a5 t5.length c5) t5.length (rowR idC t5)) := by rw [hWN]; exact own_kept HO.out ((Kept.refl (fun k => k ≠ b + 1) _).setCell (by simp) _) fun g hg => by have := own_ge HO.out hg; omega
  clear HP hcall HA HRs r5 k5 HO o5
  go_upto_region 8 with fail
  rw [← hWN]
  clear hWN c_0 c_1 c_2 c_3 c_4 c_5 c_6 z_0 z_1 z_2 z_3 z_4 z_5 z_6 w6
  have HA := HA'
  have HRs := HRs'
  clear HA' HRs'
  have HO := HO'
  clear HO'
  generalize WN = V6 at *
  have hcall := rdtext_any br x6 V6 HRs.out hx
  have hbd6 := Td.sTxt_bd x6
  have hln := Td.sTxt_len x6
  unfold RsOut at hcall
  rcases hE : Td.sTxt x6 with ⟨t6, x7⟩
  rw [hE] at hcall hbd6 hln
  have HE6 : Hid (Td.sTxt x6 = (t6, x7)) := hE
  replace hx : x7.1.length ≤ 1048576 := Nat.le_trans hln hx
  dsimp only at hcall hbd6
  clear hE hln
  go_wp2_with fail
  refine hcall.mono ?_
  rintro e w7 ⟨rfl, r6, k6⟩
  have HO6 : Hid (w7.ownsRow (b + 2) 49 8 (.slice a5 t5.length c5) t5.length (rowR idC t5)) := own_kept HO.out k6 fun g hg => by have := own_ge HO.out hg; have := HA.out.lt; omega
  have HP := HA.out.past k6
  obtain ⟨c_0, c_1, c_2, c_3, c_4, c_5, c_6⟩ := seven_at HP.str
  obtain ⟨z_0, z_1, z_2, z_3, z_4, z_5, z_6⟩ := seven_fz HP.str
  obtain ⟨WN, hWN⟩ : ∃ WN, WN = w7.setCell ⟨b + 1, 6, none⟩ (.string ⟨t6.toArray⟩) := ⟨_, rfl⟩
  have HA' : Hid (R3 w WN br b (.string ⟨t0.toArray⟩) (.int .i64 (t1 : Nat)) (.int .i64 (t2 : Nat)) (.int .i64 t3) (.int .i64 (t4 : Nat)) (.slice a5 t5.length c5) (.string ⟨t6.toArray⟩)) := by rw [hWN]; exact HP.setAt 6 _ rfl
  have HRs' : Hid (Rs WN br x7) := by rw [hWN]; exact HP.rs r6 6 _
  have HO' : Hid (WN.ownsRow (b + 2) 49 8 (.slice a5 t5.length c5) t5.length (rowR idC t5)) := by rw [hWN]; exact own_kept HO6.out ((Kept.refl (fun k => k ≠ b + 1) _).setCell (by simp) _) fun g hg => by have := own_ge HO6.out hg; omega
  clear HP hcall HA HRs r6 k6 HO HO6
  go_upto_region 9 with fail
  rw [← hWN]
  clear hWN c_0 c_1 c_2 c_3 c_4 c_5 c_6 z_0 z_1 z_2 z_3 z_4 z_5 z_6 w7
  have HA := HA'
  have HRs := HRs'
  clear HA' HRs'
  have HO := HO'
  clear HO'
  generalize WN = V7 at *
  obtain ⟨m0, m1, m2, m3, m4, m5, m6⟩ := seven_at HA.out.str
  obtain ⟨r0, r1, r2, r3, r4, r5, r6⟩ := seven_at HA.out.res
  obtain ⟨f0, f1, f2, f3, f4, f5, f6⟩ := seven_fz HA.out.res
  have HSv : Hid ((((((((V7.setCell ⟨b, 0, none⟩ (.string ⟨t0.toArray⟩)).setCell ⟨b, 1, none⟩ (.int .i64 (t1 : Nat))).setCell ⟨b, 2, none⟩ (.int .i64 (t2 : Nat))).setCell ⟨b, 3, none⟩ (.int .i64 t3)).setCell ⟨b, 4, none⟩ (.int .i64 (t4 : Nat))).setCell ⟨b, 5, none⟩ (.slice a5 t5.length c5)).setCell ⟨b, 6, none⟩ (.string ⟨t6.toArray⟩)).heap[b]? = some (.cells #[.string ⟨t0.toArray⟩, .int .i64 (t1 : Nat), .int .i64 (t2 : Nat), .int .i64 t3, .int .i64 (t4 : Nat), .slice a5 t5.length c5, .string ⟨t6.toArray⟩] 32 (0, 0))) := set_seven HA.out.res _ _ _ _ _ _ _
  have HKf : Hid (Kept (fun j => j ≠ b) V7 (((((((V7.setCell ⟨b, 0, none⟩ (.string ⟨t0.toArray⟩)).setCell ⟨b, 1, none⟩ (.int .i64 (t1 : Nat))).setCell ⟨b, 2, none⟩ (.int .i64 (t2 : Nat))).setCell ⟨b, 3, none⟩ (.int .i64 t3)).setCell ⟨b, 4, none⟩ (.int .i64 (t4 : Nat))).setCell ⟨b, 5, none⟩ (.slice a5 t5.length c5)).setCell ⟨b, 6, none⟩ (.string ⟨t6.toArray⟩))) := kept7 V7 b _ _ _ _ _ _ _
  have hlt := HA.out.lt
  have HFin : Hid (((((((((V7.setCell ⟨b, 0, none⟩ (.string ⟨t0.toArray⟩)).setCell ⟨b, 1, none⟩ (.int .i64 (t1 : Nat))).setCell ⟨b, 2, none⟩ (.int .i64 (t2 : Nat))).setCell ⟨b, 3, none⟩ (.int .i64 t3)).setCell ⟨b, 4, none⟩ (.int .i64 (t4 : Nat))).setCell ⟨b, 5, none⟩ (.slice a5 t5.length c5)).setCell ⟨b, 6, none⟩ (.string ⟨t6.toArray⟩)).ownsRow w.heap.size 49 8 (.slice a5 t5.length c5) t5.length (rowR idC t5)) ∧ Rs (((((((V7.setCell ⟨b, 0, none⟩ (.string ⟨t0.toArray⟩)).setCell ⟨b, 1, none⟩ (.int .i64 (t1 : Nat))).setCell ⟨b, 2, none⟩ (.int .i64 (t2 : Nat))).setCell ⟨b, 3, none⟩ (.int .i64 t3)).setCell ⟨b, 4, none⟩ (.int .i64 (t4 : Nat))).setCell ⟨b, 5, none⟩ (.slice a5 t5.length c5)).setCell ⟨b, 6, none⟩ (.string ⟨t6.toArray⟩)) br x7 ∧ Kept (fun j => j ≠ br) w (((((((V7.setCell ⟨b, 0, none⟩ (.string ⟨t0.toArray⟩)).setCell ⟨b, 1, none⟩ (.int .i64 (t1 : Nat))).setCell ⟨b, 2, none⟩ (.int .i64 (t2 : Nat))).setCell ⟨b, 3, none⟩ (.int .i64 t3)).setCell ⟨b, 4, none⟩ (.int .i64 (t4 : Nat))).setCell ⟨b, 5, none⟩ (.slice a5 t5.length c5)).setCell ⟨b, 6, none⟩ (.string ⟨t6.toArray⟩))) := by
    refine ⟨own_lower (own_kept HO.out HKf.out fun g hg => by have := own_ge HO.out hg; omega) (by rw [← HWb.out]; omega), HKf.out.obj (by omega) HRs.out, ?_⟩
    exact ⟨HKf.out.os.trans HA.out.kept.os, HKf.out.tape.trans HA.out.kept.tape, HKf.out.output.trans HA.out.kept.output, Nat.le_trans HA.out.kept.size HKf.out.size, fun j hj hp => (HKf.out.block j (Nat.lt_of_lt_of_le hj HA.out.kept.size) (by have := HWb.out; omega)).trans (HA.out.kept.block j hj hp)⟩
  have HNd : Hid (R = (⟨t0, (t1 : Nat), (t2 : Nat), t3, (t4 : Nat), t5, t6⟩, x7)) := by
    show _ = _
    rw [← HR.out, Td.sNode, HE0.out]
    simp only [HE1.out, HE2.out, HE3.out, HE4.out, HE5.out, HE6.out]
  have HOk : Hid (Nod.Ok ⟨⟨t0.toArray⟩, (t1 : Nat), (t2 : Nat), t3, (t4 : Nat), t5, ⟨t6.toArray⟩⟩) := ⟨wf_i (n := (t1 : Nat)) (by omega) (by omega), wf_i (n := (t2 : Nat)) (by omega) (by omega), wf_i hbd3.1 hbd3.2, wf_i (n := (t4 : Nat)) (by omega) (by omega), by show ByteArray.size _ ≤ _; rw [tg_size]; omega, by show ByteArray.size _ ≤ _; rw [tg_size]; omega, hbd5.2⟩
  clear HKf HA HRs HO HE0 HE1 HE2 HE3 HE4 HE5 HE6 HR hbd0 hbd1 hbd2 hbd3 hbd4 hbd5 hbd6 hx
  go_wp2_with fail
  obtain ⟨WF, hWF⟩ : ∃ WF, WF = (((((((V7.setCell ⟨b, 0, none⟩ (.string ⟨t0.toArray⟩)).setCell ⟨b, 1, none⟩ (.int .i64 (t1 : Nat))).setCell ⟨b, 2, none⟩ (.int .i64 (t2 : Nat))).setCell ⟨b, 3, none⟩ (.int .i64 t3)).setCell ⟨b, 4, none⟩ (.int .i64 (t4 : Nat))).setCell ⟨b, 5, none⟩ (.slice a5 t5.length c5)).setCell ⟨b, 6, none⟩ (.string ⟨t6.toArray⟩)) := ⟨_, rfl⟩
  rw [← hWF] at HFin HSv ⊢
  obtain ⟨q0, q1, q2, q3, q4, q5, q6⟩ := seven_at HSv.out
  refine bodyPost_ret (v := .agg #[.string ⟨t0.toArray⟩, .int .i64 (t1 : Nat), .int .i64 (t2 : Nat), .int .i64 t3, .int .i64 (t4 : Nat), .slice a5 t5.length c5, .string ⟨t6.toArray⟩]) ?_ rfl ⟨⟨⟨t0.toArray⟩, (t1 : Nat), (t2 : Nat), t3, (t4 : Nat), t5, ⟨t6.toArray⟩⟩, .slice a5 t5.length c5, rfl, by rw [HNd.out]; rfl, HFin.out.1, HOk.out, by rw [HNd.out]; exact HFin.out.2.1, HFin.out.2.2⟩
  simp [results, asAddr, go_sem, q0, q1, q2, q3, q4, q5, q6]
end Go.Proofs.YtcgecafajgoeeaaDoor

namespace Go.Proofs.YtcgecafajgoeeaaDoor
open Go.RowKit
set_option maxRecDepth 4000

theorem Kt.of_rs {A B : World} {br : Nat} {x : Td.St} (hk : Kept (fun j => j ≠ br) A B) (hr : Rs A br x) : Kt 51 A B :=
  ⟨hk.os, hk.tape, hk.output, hk.size, fun k o ho hn => by
    by_cases e : k = br
    · subst e
      unfold Rs at hr
      rw [hr, Option.some.injEq] at ho
      exact absurd ⟨_, _, ho.symm⟩ hn
    · exact (hk.block k (Array.getElem?_eq_some_iff.1 ho).1 e).trans ho⟩
theorem NdG.kr {w W : World} {n : Nod} {c : List Value} (hk : Kt 51 w W) (h : NdG w n c) : NdG W n c := by
  obtain ⟨v, e, hr, ht, ho⟩ := h
  refine ⟨v, e, ⟨?_, hr.room⟩, fun a m c hv => ?_, ho⟩
  · rcases hr.at_ with h1 | ⟨bk, o, cap, h1, h2, h3⟩
    · exact .inl h1
    · obtain ⟨cur, fr, hb⟩ := ht _ _ _ h1
      have hb' := hk.cell hb (by decide)
      refine .inr ⟨bk, o, cap, h1, Nat.lt_of_lt_of_le h2 hk.size, fun j t hj r u hu => ?_⟩
      rw [← h3 j t hj r u hu]
      simp only [World.cell?] at hb hb' ⊢
      rw [hb, hb']
  · obtain ⟨cur, fr, hb⟩ := ht a m c hv
    exact ⟨cur, fr, hk.cell hb (by decide)⟩
/-- what nodes answers -/
def NsOut (br : Nat) (w : World) (x : Td.St) (e : Ending) (w' : World) : Prop :=
  ∃ v l, e = .returned v ∧ nds l = (Td.sAll (Td.sNum 64 x).1 (Td.sNum 64 x).2).1 ∧ l.length ≤ 64 ∧ Nds w' v l ∧ Rs w' br (Td.sAll (Td.sNum 64 x).1 (Td.sNum 64 x).2).2 ∧ Kept (fun j => j ≠ br) w w'

set_option maxHeartbeats 4000000 in
set_option maxRecDepth 10000 in
theorem rdnodes_any (br : Nat) (x : Td.St) (w : World) (h : Rs w br x) (hx : x.1.length ≤ 1048576) :
    Calls Tryd.prog 25 #[.pointer (some ⟨br, 0, none⟩)] w (NsOut br w x) := by
  unfold NsOut
  obtain ⟨i0, hi, hz0, hz1, hz2⟩ := info_of' info_nd
  have hg := rdnumber_any br 64 x w h (by omega) hx
  have hnp := Td.sNum_most 64 x
  have hl1 := Td.sNum_len 64 x
  rcases hN : Td.sNum 64 x with ⟨np, x1⟩
  rw [hN] at hg hnp hl1
  dsimp only at *
  unfold RsOut at hg
  have HB : Hid (br < w.heap.size) := h.lt
  have HL : Hid (∀ k, (Td.sAll k x1).2.1.length ≤ 1048576) := fun k => by have := (Td.sAll_len x1 k).1; omega
  have HSt : Hid (∀ k, Td.sAll (k + 1) x1 = ((Td.sAll k x1).1 ++ [(Td.sNode (Td.sAll k x1).2).1], (Td.sNode (Td.sAll k x1).2).2)) := fun k => rfl
  clear h hN hx hl1
  go_enter Tryd.func25, Tryd.ntmps25
  go_wp2_with fail
  refine hg.mono ?_
  rintro e w1 ⟨rfl, r1, k1⟩
  have HR1 : Hid (Rs w1 br x1) := r1
  have HK1 : Hid (Kept (fun j => j ≠ br) w w1) := k1
  clear hg r1 k1
  go_wp2_with fail
  go_loopw [3, 6] (fun v i wr => ∃ (k : Nat) (l : List Nod), k ≤ np ∧ i = .int .i64 k ∧ l.length = k ∧ Hid (nds l = (Td.sAll k x1).1) ∧ Hid (Oy 7 32 NdG w.heap.size wr v l) ∧ Hid (Rs wr br (Td.sAll k x1).2) ∧ Hid (Kept (fun j => j ≠ br) w wr)) (fun _ i _ => np - (intOf i).toNat)
  case atStart => exact ⟨0, [], by omega, rfl, rfl, rfl, Oy.nil, HR1, HK1⟩
  case round =>
    clear HR1 HK1
    obtain ⟨k, l, hk, rfl, hlk, HD, HO, HR, HK⟩ := hrel
    by_cases hlt : k < np
    · have hst := HSt.out k
      have hnr := rdnode_any br (Td.sAll k x1).2 wr HR.out (HL.out k)
      unfold NoOut at hnr
      have HST : Hid (Td.sAll (k + 1) x1 = ((Td.sAll k x1).1 ++ [(Td.sNode (Td.sAll k x1).2).1], (Td.sNode (Td.sAll k x1).2).2)) := hst
      generalize Td.sNode (Td.sAll k x1).2 = NN at *
      clear hst
      go_wp2_with fail
      refine hnr.mono ?_
      rintro e w3 ⟨n, v, rfl, hnd, o3, hok, r3, k3⟩
      obtain ⟨av, cv, rfl⟩ := own_len o3
      have HG3 : Hid (NdG w3 n (ndC n (.slice av n.parts.length cv))) := ⟨_, rfl, rx_own o3 rfl hok.ids, own_type o3, hok⟩
      have hKr : Kt 51 wr w3 := Kt.of_rs k3 HR.out
      obtain ⟨cc, o1, o2, o2l, o4⟩ := HO.out
      have o1' : w3.ownsRow w.heap.size 32 7 u3 l.length cc.flatten := own_kept o1 k3 fun g hg => by have := own_ge o1 hg; have := HB.out; omega
      have HO2 : Hid ((∀ c ∈ cc, c.length = 7) ∧ cc.length = l.length ∧ ∀ (j : Nat) t c, l[j]? = some t → cc[j]? = some c → NdG w3 t c) := ⟨o2, o2l, fun j t c a b => NdG.kr hKr (o4 j t c a b)⟩
      have HD2 : Hid (nds (l ++ [n]) = (Td.sAll (k + 1) x1).1) := by show _ = _; rw [HST.out, ← HD.out, ← hnd]; simp [nds]
      have HR3 : Hid (Rs w3 br (Td.sAll (k + 1) x1).2) := by rw [HST.out]; exact r3
      have HK3 : Hid (Kept (fun j => j ≠ br) w w3) := HK.out.trans k3
      have HLe : Hid (l.length = k ∧ (l ++ [n]).length = k + 1) := ⟨hlk, by rw [List.length_append, hlk]; rfl⟩
      have hl4 : l.length ≤ 64 := by omega
      have hsw := HK3.out.size
      obtain ⟨np', hnp'⟩ : ∃ np', np' = n.parts.length := ⟨_, rfl⟩
      rw [← hnp'] at HG3 ⊢
      clear hnr o3 hok r3 k3 hKr o1 o2 o2l o4 hnd hnp' HST HO HR HK HD
      obtain ⟨name, kind, mode, time, size, parts, link⟩ := n
      dsimp only at *
      go_wp2_with (at_builtin; refine wpList_append_own _ rfl (.tmp 8) (.tmp 11) 22 rfl w.heap.size 32 i0 (.agg #[.string ⟨#[]⟩, .int .i64 0, .int .i64 0, .int .i64 0, .int .i64 0, .slice none 0 0, .string ⟨#[]⟩]) 7 88 Tryd.underlying22 hi hz0 hz1 hz2 rfl (by decide) _ _ _ rfl (o1'.alloc _) ⟨w3.heap.size, 0, none⟩ 1 1 [.string name, .int .i64 kind, .int .i64 mode, .int .i64 time, .int .i64 size, .slice av np' cv, .string link] rfl rfl (seven_new w3 _ _ _ _ _ _ _) ?c2 ?c3 ?c4 ?c5 ?_)
      case c2 => simp [Value.oneCell']
      case c3 => unfold maxLen; omega
      case c4 => omega
      case c5 => first | omega | (simp; omega)
      intro v6 w5 hown5 hgrow _
      rw [← HLe.out.1] at hown5
      have hk5 : Kt 32 w3 w5 := ((Kt.refl _ w3).alloc _).trans (Kt.of_grown hgrow fun g hg => by
        obtain ⟨cur, q, _⟩ := own_block (o1'.alloc _) hg
        exact ⟨cur, _, q⟩)
      have hge : ∀ g, u3.ownBlock = some g → w.heap.size ≤ g := fun g hg => own_ge o1' hg
      have HR5 : Hid (Rs w5 br (Td.sAll (k + 1) x1).2) := hk5.cell HR3.out (by decide)
      have HK5 : Hid (Kept (fun j => j ≠ br) w w5) := by
        have hz := HK3.out.alloc (.cells #[.string name, .int .i64 kind, .int .i64 mode, .int .i64 time, .int .i64 size, .slice av np' cv, .string link] 32)
        exact ⟨hgrow.os.trans hz.os, hgrow.tape.trans hz.tape, hgrow.output.trans hz.output, Nat.le_trans hz.size hgrow.size, fun j hj hp => (hgrow.block j (Nat.lt_of_lt_of_le hj hz.size) fun e => by have := hge j e.symm; omega).trans (hz.block j hj hp)⟩
      have HOn : Hid (Oy 7 32 NdG w.heap.size w5 v6 (l ++ [⟨name, kind, mode, time, size, parts, link⟩])) := Oy.more HO2.out.1 HO2.out.2.1 (fun j t c a b => NdG.kt hk5 (HO2.out.2.2 j t c a b)) hown5 rfl (NdG.kt hk5 HG3.out)
      clear hown5 hgrow hk5 o1' HO2 HG3 HK3 HR3 hge
      go_wp2_with fail
      go_roundw
      case measure => simp only [intOf]; omega
      case rel => exact ⟨k + 1, _, by omega, by go_num, HLe.out.2, HD2, HOn, HR5, HK5⟩
    · obtain rfl : k = np := by omega
      have HNd : Hid (Nds wr u3 l) := Nds.of_oy HO.out
      have hl64 : l.length ≤ 64 := by omega
      clear HO
      go_wp2_with fail
      go_ret
      exact ⟨_, l, rfl, HD.out, hl64, HNd.out, HR.out, HK.out⟩

/-- what Read answers -/
def TgOut (s : ByteArray) (w : World) (e : Ending) (w' : World) : Prop :=
  ∃ v l, e = .returned (.tuple #[v, .int .i64 (Td.read s.data.toList).2]) ∧ nds l = (Td.read s.data.toList).1 ∧ Nds w' v l ∧ l.length ≤ 64 ∧ Below w.heap.size w w'
theorem write_size (l : List Nod) : (⟨(Td.write (nds l)).1.toArray⟩ : ByteArray).size ≤ 9223372036854775807 := by
  rw [tg_size]
  unfold Td.write
  split
  · simp
  · split
    · simp
    · show (Td.textB (nds l)).length ≤ _; omega

set_option maxHeartbeats 4000000 in
set_option maxRecDepth 10000 in
theorem tread_any (s : ByteArray) (w : World) (hs : s.size ≤ 9223372036854775807) (hT : Tabs w) : Calls Tryd.prog 14 #[.string s] w (TgOut s w) := by
  unfold TgOut
  by_cases h4 : 4096 < s.size
  · have HR : Hid (Td.read s.data.toList = ([], 2)) := by show _ = _; unfold Td.read; rw [if_pos (by rw [← Lib.size_eq]; exact h4)]
    generalize Td.read s.data.toList = RES at *
    have g4 : (4096 : Int) < (s.size : Int) := by omega
    clear hT
    go_enter Tryd.func14, Tryd.ntmps14
    go_wp2_with fail
    go_ret2
    exact ⟨_, [], by rw [HR.out]; rfl, by rw [HR.out]; rfl, Rw.nil _ _, by simp, Below.refl _ _⟩
  have g4 : ¬ (4096 : Int) < (s.size : Int) := by omega
  rcases hA : Td.sAll (Td.sNum 64 (s.data.toList, 0)).1 (Td.sNum 64 (s.data.toList, 0)).2 with ⟨L, r, er⟩
  have HRd : Hid (Td.read s.data.toList = if er ≠ 0 then ([], er) else if r ≠ [] then ([], 4) else if Td.check L ≠ 0 then ([], Td.check L) else (L, 0)) := Td.read_st (by rw [← Lib.size_eq]; exact h4) hA
  generalize Td.read s.data.toList = RES at *
  obtain ⟨W1, hW1⟩ : ∃ W1, W1 = w.alloc (.cells #[.string s, .int .i64 0] 51) := ⟨_, rfl⟩
  have HB1 : Hid (Below w.heap.size w W1) := by rw [hW1]; exact (Below.refl _ w).alloc (Nat.le_refl _) _
  have HR1 : Hid (Rs W1 w.heap.size (s.data.toList, 0)) := by rw [hW1]; exact heap_alloc_new w _
  have hns := rdnodes_any w.heap.size (s.data.toList, 0) W1 HR1.out (by show List.length _ ≤ _; rw [← Lib.size_eq]; omega)
  unfold NsOut at hns
  rw [hA] at hns
  dsimp only at hns
  have HT : Hid (Tabs w) := hT
  have hrl : r.length ≤ 4096 := by
    have q1 := (Td.sAll_len (Td.sNum 64 (s.data.toList, 0)).2 (Td.sNum 64 (s.data.toList, 0)).1).1
    have q2 := Td.sNum_len 64 (s.data.toList, 0)
    rw [hA] at q1
    have q3 : s.data.toList.length = s.size := (Lib.size_eq s).symm
    simp only at q1 q2
    omega
  obtain ⟨br, hbr⟩ : ∃ br, br = w.heap.size := ⟨_, rfl⟩
  have HBr : Hid (br = w.heap.size) := hbr
  rw [← hbr] at hns
  clear hT hA HR1
  go_enter Tryd.func14, Tryd.ntmps14
  go_upto_region 4 with fail
  rw [← hW1, ← hbr]
  clear hW1 hbr
  go_wp2_with fail
  refine hns.mono ?_
  rintro e w2 ⟨v, l, rfl, hd, hl, hn, r2, k2⟩
  have hb2 : Below w.heap.size w w2 := HB1.out.trans (k2.below HB1.out.size fun j hj => by have := HBr.out; omega)
  have HB2 : Hid (Below w.heap.size w w2) := hb2
  have HN2 : Hid (Nds w2 v l) := hn
  have hck := tcheck_any v l w2 hn (by omega) (HT.out.below hb2)
  rw [hd] at hck
  have HD : Hid (nds l = L) := hd
  obtain ⟨c0, c1, f0, f1⟩ := r2.cells
  dsimp only at c0 c1
  obtain ⟨t, ht⟩ : ∃ t : ByteArray, t = ⟨r.toArray⟩ := ⟨_, rfl⟩
  have hts : t.size = r.length := by rw [ht]; exact tg_size r
  rw [← ht] at c0
  clear hns hb2 hn hd r2 k2 HB1 ht f0 f1
  by_cases he : er ≠ 0
  · have hqn : (er != 0) = true := by rw [bne_iff_ne]; exact he
    have HRE : Hid (RES = ([], er)) := by
      have := HRd.out
      rwa [if_pos he] at this
    clear HRd hck
    go_wp2_with fail
    go_quiet (fail)
    go_wp2_with fail
    go_ret2
    exact ⟨_, [], by rw [HRE.out]; rfl, by rw [HRE.out]; rfl, Rw.nil _ _, by simp, below_drewN HB2.out _⟩
  obtain rfl := Decidable.not_not.mp he
  have HRd1 : Hid (RES = if r ≠ [] then ([], 4) else if Td.check L ≠ 0 then ([], Td.check L) else (L, 0)) := by
    have := HRd.out
    rwa [if_neg (by simp)] at this
  clear HRd he
  by_cases hr : r ≠ []
  · have HRE : Hid (RES = ([], 4)) := by
      have := HRd1.out
      rwa [if_pos hr] at this
    have hp : (0 : Int) < (t.size : Int) := by have := List.length_pos_iff.2 hr; omega
    clear HRd1 hck
    go_wp2_with fail
    go_ret2
    exact ⟨_, [], by rw [HRE.out]; rfl, by rw [HRE.out]; rfl, Rw.nil _ _, by simp, HB2.out⟩
  obtain rfl := Decidable.not_not.mp hr
  have HRd2 : Hid (RES = if Td.check L ≠ 0 then ([], Td.check L) else (L, 0)) := by
    have := HRd1.out
    rwa [if_neg (by simp)] at this
  have hp : ¬ (0 : Int) < (t.size : Int) := by rw [hts]; simp
  generalize Td.check L = E at *
  clear HRd1 hr hrl hts
  go_wp2_with fail
  refine hck.mono ?_
  rintro e w3 ⟨rfl, b3⟩
  have HB3 : Hid (Below w.heap.size w w3) := HB2.out.trans (b3.mono HB2.out.size)
  have HN3 : Hid (Nds w3 v l) := HN2.out.below b3
  clear hck b3
  by_cases hE : E ≠ 0
  · have hqn : (E != 0) = true := by rw [bne_iff_ne]; exact hE
    have HRE : Hid (RES = ([], E)) := by
      have := HRd2.out
      rwa [if_pos hE] at this
    clear HRd2
    go_wp2_with fail
    go_ret2
    exact ⟨_, [], by rw [HRE.out]; rfl, by rw [HRE.out]; rfl, Rw.nil _ _, by simp, HB3.out⟩
  obtain rfl := Decidable.not_not.mp hE
  have HRE : Hid (RES = (L, 0)) := by
    have := HRd2.out
    rwa [if_neg (by simp)] at this
  clear HRd2 hE
  go_wp2_with fail
  go_ret2
  exact ⟨_, l, by rw [HRE.out]; rfl, by rw [HRE.out]; exact HD.out, HN3.out, hl, HB3.out⟩
end Go.Proofs.YtcgecafajgoeeaaDoor
