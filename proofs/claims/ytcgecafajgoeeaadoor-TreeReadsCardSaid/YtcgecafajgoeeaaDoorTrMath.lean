/-
  P43 to P45 (no Go in it): nodes of a directory, their text, and what is read back.
-/
import Derived.Test.YtcgecafajgoeeaaDoorMathOne
import Derived.Test.YtcgecafajgoeeaaDoorNnChr
namespace Go.Proofs.YtcgecafajgoeeaaDoor
namespace Td

abbrev Bs := List UInt8
/-- a node: its parts are IDs of eight bytes each -/
structure Nd where
  name : Bs
  kind : Int
  mode : Int
  time : Int
  size : Int
  parts : List Bs
  link : Bs
/-- the error of one node -/
def nErr (n : Nd) : Int :=
  if Nn.nm n.name ≠ 0 then Nn.nm n.name
  else if n.mode < 0 ∨ 511 < n.mode ∨ n.size < 0 ∨ 4096 < n.size ∨ 300 < n.parts.length then 1
  else if n.kind < 1 ∨ 3 < n.kind then 5
  else if (n.kind = 1 ∧ n.link ≠ []) ∨ (1 < n.kind ∧ n.size ≠ 0) ∨ (n.kind = 2 ∧ (n.parts.length ≠ 1 ∨ n.link ≠ [])) ∨ (n.kind = 3 ∧ (n.parts.length ≠ 0 ∨ n.link = [])) then 4
  else if 1024 < n.link.length then 2 else 0
theorem nErr_ok {n : Nd} (h : nErr n = 0) : Nn.nm n.name = 0 ∧ 0 ≤ n.mode ∧ n.mode ≤ 511 ∧ 0 ≤ n.size ∧ n.size ≤ 4096 ∧ n.parts.length ≤ 300 ∧ 1 ≤ n.kind ∧ n.kind ≤ 3 ∧ n.link.length ≤ 1024 := by
  unfold nErr at h
  split at h
  · rename_i q; exact absurd h q
  · rename_i q0
    split at h
    · cases h
    · rename_i q1
      split at h
      · cases h
      · rename_i q2
        split at h
        · cases h
        · split at h
          · cases h
          · rename_i q4
            have := Decidable.not_not.mp q0
            exact ⟨this, by omega, by omega, by omega, by omega, by omega, by omega, by omega, by omega⟩
/-- a name that is not above the one ahead -/
def low (p : Option Bs) (s : Bs) : Bool := match p with | none => false | some b => !Op.bytesLess b s
/-- node by node: the first error -/
def ckB : Option Bs → List Nd → Int
  | _, [] => 0
  | p, n :: l => if nErr n ≠ 0 then nErr n else if low p n.name = true then 4 else ckB (some n.name) l
def check (l : List Nd) : Int := if 64 < l.length then 2 else ckB none l
theorem ckB_each : ∀ {l : List Nd} {p : Option Bs}, ckB p l = 0 → ∀ n ∈ l, nErr n = 0
  | [], _, _, n, hn => absurd hn List.not_mem_nil
  | m :: l, p, h, n, hn => by
    rw [ckB] at h
    split at h
    · rename_i q; exact absurd h q
    · rename_i q
      split at h
      · cases h
      · rcases List.mem_cons.1 hn with e | hn
        · rw [e]; exact Decidable.not_not.mp q
        · exact ckB_each h n hn
theorem check_ok {l : List Nd} (h : check l = 0) : l.length ≤ 64 ∧ ∀ n ∈ l, nErr n = 0 := by
  unfold check at h
  split at h
  · cases h
  · exact ⟨by omega, ckB_each h⟩
/-- where a name stands -/
def find (l : List Nd) (s : Bs) : Nat × Int :=
  if check l ≠ 0 then (0, check l) else match l.findIdx? (fun n => n.name == s) with
  | none => (0, 9)
  | some k => (k, 0)
/-- a node as bytes -/
def rowT (n : Nd) : Bs := Nm.putT n.name ++ (UInt8.ofNat n.kind.toNat :: (Nm.put n.mode.toNat ++ (Nm.putI n.time ++ (Nm.put n.size.toNat ++ (Nm.put n.parts.length ++ (n.parts.flatten ++ Nm.putT n.link))))))
def rowsT (l : List Nd) : Bs := (l.map rowT).flatten
def textB (l : List Nd) : Bs := Nm.put l.length ++ rowsT l
/-- what Write says -/
def write (l : List Nd) : Bs × Int := if check l ≠ 0 then ([], check l) else if 4096 < (textB l).length then ([], 2) else (textB l, 0)
/-- a number that may not be above -/
def num (most : Nat) (s : Bs) : Nat × Bs × Int :=
  let g := Nm.getN s
  if g.2.2 ≠ 0 then (0, [], g.2.2) else if most < g.1 then (0, [], 2) else (g.1, s.drop g.2.1, 0)
/-- a text cut into eights -/
def eights : Nat → Bs → List Bs
  | 0, _ => []
  | k + 1, s => s.take 8 :: eights k (s.drop 8)
def nd0 : Nd := ⟨[], 0, 0, 0, 0, [], []⟩
/-- one node, and what is behind it -/
def rdOne (s : Bs) : Nd × Bs × Int :=
  let t := Nm.getT s
  if t.2.2 ≠ 0 then (nd0, [], t.2.2) else
  let s1 := s.drop t.2.1
  if s1 = [] then (nd0, [], 3) else
  let m := num 511 s1.tail
  if m.2.2 ≠ 0 then (nd0, [], m.2.2) else
  let i := Nm.getI m.2.1
  if i.2.2 ≠ 0 then (nd0, [], i.2.2) else
  let z := num 4096 (m.2.1.drop i.2.1)
  if z.2.2 ≠ 0 then (nd0, [], z.2.2) else
  let p := num 300 z.2.1
  if p.2.2 ≠ 0 then (nd0, [], p.2.2) else
  if p.2.1.length < 8 * p.1 then (nd0, [], 3) else
  let k := Nm.getT (p.2.1.drop (8 * p.1))
  if k.2.2 ≠ 0 then (nd0, [], k.2.2) else
  (⟨t.1, (s1.headD 0).toNat, m.1, i.1, z.1, eights p.1 p.2.1, k.1⟩, (p.2.1.drop (8 * p.1)).drop k.2.1, 0)
/-- so many nodes -/
def rdAll : Nat → Bs → List Nd → List Nd × Int
  | 0, s, out => if s ≠ [] then ([], 4) else if check out ≠ 0 then ([], check out) else (out, 0)
  | m + 1, s, out => let r := rdOne s; if r.2.2 ≠ 0 then ([], r.2.2) else rdAll m r.2.1 (out ++ [r.1])
/-- what Read says -/
def read (s : Bs) : List Nd × Int :=
  if 4096 < s.length then ([], 2) else
  let g := num 64 s
  if g.2.2 ≠ 0 then ([], g.2.2) else rdAll g.1 g.2.1 []
/-- a node as a machine has it: a time of 64 bits, IDs of eight bytes -/
structure Wn (n : Nd) : Prop where
  lo : -9223372036854775808 ≤ n.time
  hi : n.time ≤ 9223372036854775807
  ids : ∀ p ∈ n.parts, p.length = 8

theorem num_put {most n : Nat} (hm : most < 256 ^ 8) (h : n ≤ most) (m : Bs) : num most (Nm.put n ++ m) = (n, m, 0) := by
  unfold num
  rw [Nm.get_put n m (by omega)]
  simp only [ne_eq, not_true, if_false, List.drop_left]
  rw [if_neg (by omega)]
theorem num_one {most : Nat} {s : Bs} {n : Nat} {r : Bs} (h : num most s = (n, r, 0)) : n ≤ most ∧ Nm.put n ++ r = s := by
  unfold num at h
  rcases hg : Nm.getN s with ⟨a, k, e⟩
  rw [hg] at h
  simp only at h
  split at h
  · rename_i hn; exact absurd (congrArg (fun q => q.2.2) h) hn
  · rename_i h0
    split at h
    · exact absurd (congrArg (fun q => q.2.2) h) (by simp)
    · obtain rfl : a = n := congrArg (fun q => q.1) h
      obtain rfl : s.drop k = r := congrArg (fun q => q.2.1) h
      obtain ⟨_, _, e1⟩ := Nm.get_one (hg.trans (by rw [Decidable.not_not.mp h0]))
      exact ⟨by omega, by rw [e1, List.take_append_drop]⟩
theorem flat8 : ∀ {l : List Bs}, (∀ p ∈ l, p.length = 8) → l.flatten.length = 8 * l.length
  | [], _ => rfl
  | p :: l, h => by
    rw [List.flatten_cons, List.length_append, h p List.mem_cons_self, flat8 fun q hq => h q (List.mem_cons_of_mem _ hq), List.length_cons]
    omega
theorem eights_flat : ∀ {l : List Bs} (m : Bs), (∀ p ∈ l, p.length = 8) → eights l.length (l.flatten ++ m) = l
  | [], _, _ => rfl
  | p :: l, m, h => by
    have h8 := h p List.mem_cons_self
    rw [List.length_cons, eights, List.flatten_cons, List.append_assoc, ← h8, List.take_left, List.drop_left, eights_flat m fun q hq => h q (List.mem_cons_of_mem _ hq)]
theorem flat_eights : ∀ {k : Nat} {s : Bs}, 8 * k ≤ s.length → (eights k s).flatten = s.take (8 * k) ∧ (eights k s).length = k ∧ ∀ p ∈ eights k s, p.length = 8
  | 0, s, _ => by simp [eights]
  | k + 1, s, h => by
    have h1 : 8 * k ≤ (s.drop 8).length := by rw [List.length_drop]; omega
    obtain ⟨a, b, c⟩ := flat_eights h1
    refine ⟨?_, by rw [eights, List.length_cons, b], fun p hp => ?_⟩
    · rw [eights, List.flatten_cons, a, show 8 * (k + 1) = 8 + 8 * k from by omega, List.take_add]
    · rw [eights] at hp
      rcases List.mem_cons.1 hp with e | hp
      · rw [e, List.length_take]; omega
      · exact c p hp
theorem rdOne_row {n : Nd} (hw : Wn n) (h : nErr n = 0) (m : Bs) : rdOne (rowT n ++ m) = (n, m, 0) := by
  obtain ⟨hn, m0, m1, z0, z1, hp, k0, k1, hl⟩ := nErr_ok h
  have hnl : n.name.length ≤ 1024 := by have := Nn.nm_long hn; omega
  have e0 : rowT n ++ m = Nm.putT n.name ++ (UInt8.ofNat n.kind.toNat :: (Nm.put n.mode.toNat ++ (Nm.putI n.time ++ (Nm.put n.size.toNat ++ (Nm.put n.parts.length ++ (n.parts.flatten ++ (Nm.putT n.link ++ m))))))) := by
    unfold rowT
    simp only [List.append_assoc, List.cons_append]
  unfold rdOne
  rw [e0, Nm.getT_putT _ _ hnl]
  have n0 : ¬ ((0 : Int) ≠ 0) := fun k => k rfl
  have hf := flat8 hw.ids
  have hlt : ¬ (n.parts.flatten ++ (Nm.putT n.link ++ m)).length < n.parts.flatten.length := by rw [List.length_append]; omega
  simp only [if_neg n0, List.drop_left, List.tail_cons, num_put (show 511 < 256 ^ 8 by decide) (show n.mode.toNat ≤ 511 by omega), Nm.getI_putI _ _ hw.lo hw.hi,
    num_put (show 4096 < 256 ^ 8 by decide) (show n.size.toNat ≤ 4096 by omega), num_put (show 300 < 256 ^ 8 by decide) hp, reduceCtorEq, if_false, List.headD_cons, ← hf, if_neg hlt, eights_flat _ hw.ids, Nm.getT_putT _ _ hl]
  have kb : ((UInt8.ofNat n.kind.toNat).toNat : Int) = n.kind := by
    rw [UInt8.toNat_ofNat']; omega
  rw [kb, Int.toNat_of_nonneg m0, Int.toNat_of_nonneg z0]
theorem rdOne_one {s r : Bs} {n : Nd} (h : rdOne s = (n, r, 0)) : Wn n ∧ rowT n ++ r = s := by
  unfold rdOne at h
  rcases ht : Nm.getT s with ⟨t, kt, et⟩
  rw [ht] at h
  simp only at h
  split at h
  · rename_i q; exact absurd (congrArg (fun q => q.2.2) h) q
  rename_i q1
  split at h
  · exact absurd (congrArg (fun q => q.2.2) h) (by simp)
  rename_i q2
  rcases hm : num 511 (s.drop kt).tail with ⟨m, s2, em⟩
  rw [hm] at h
  simp only at h
  split at h
  · rename_i q; exact absurd (congrArg (fun q => q.2.2) h) q
  rename_i q3
  rcases hi : Nm.getI s2 with ⟨i, ki, ei⟩
  rw [hi] at h
  simp only at h
  split at h
  · rename_i q; exact absurd (congrArg (fun q => q.2.2) h) q
  rename_i q4
  rcases hz : num 4096 (s2.drop ki) with ⟨z, s3, ez⟩
  rw [hz] at h
  simp only at h
  split at h
  · rename_i q; exact absurd (congrArg (fun q => q.2.2) h) q
  rename_i q5
  rcases hp : num 300 s3 with ⟨p, s4, ep⟩
  rw [hp] at h
  simp only at h
  split at h
  · rename_i q; exact absurd (congrArg (fun q => q.2.2) h) q
  rename_i q6
  split at h
  · exact absurd (congrArg (fun q => q.2.2) h) (by simp)
  rename_i q7
  rcases hk : Nm.getT (s4.drop (8 * p)) with ⟨k, kk, ek⟩
  rw [hk] at h
  simp only at h
  split at h
  · rename_i q; exact absurd (congrArg (fun q => q.2.2) h) q
  rename_i q8
  obtain ⟨_, _, et1⟩ := Nm.getT_one (ht.trans (by rw [Decidable.not_not.mp q1]))
  obtain ⟨_, em1⟩ := num_one (hm.trans (by rw [Decidable.not_not.mp q3]))
  obtain ⟨_, ei1, ei2, ei3⟩ := Nm.getI_one (hi.trans (by rw [Decidable.not_not.mp q4]))
  obtain ⟨_, ez1⟩ := num_one (hz.trans (by rw [Decidable.not_not.mp q5]))
  obtain ⟨_, ep1⟩ := num_one (hp.trans (by rw [Decidable.not_not.mp q6]))
  obtain ⟨_, _, ek1⟩ := Nm.getT_one (hk.trans (by rw [Decidable.not_not.mp q8]))
  obtain ⟨f1, f2, f3⟩ := flat_eights (k := p) (s := s4) (by omega)
  obtain rfl : (s4.drop (8 * p)).drop kk = r := congrArg (fun q => q.2.1) h
  have hn : (⟨t, ((s.drop kt).headD 0).toNat, m, i, z, eights p s4, k⟩ : Nd) = n := congrArg (fun q => q.1) h
  subst hn
  refine ⟨⟨ei1, ei2, f3⟩, ?_⟩
  unfold rowT
  simp only [Int.toNat_natCast, UInt8.ofNat_toNat, List.append_assoc, List.cons_append, f1, f2, ek1, List.take_append_drop, ep1, ez1, ei3, em1, et1]
  have : (s.drop kt).headD 0 :: (s.drop kt).tail = s.drop kt := by
    cases hq : s.drop kt with
    | nil => exact absurd hq q2
    | cons a b => rfl
  rw [this, List.take_append_drop]
theorem rdAll_rows {x : List Nd} : ∀ {out : List Nd}, (∀ n ∈ x, Wn n) → check (out ++ x) = 0 → rdAll x.length (rowsT x) out = (out ++ x, 0) := by
  induction x with
  | nil =>
    intro out _ h
    rw [List.append_nil] at h ⊢
    rw [List.length_nil, rdAll, if_neg (fun k => k rfl), if_neg (fun k => k h)]
  | cons p x ih =>
    intro out hi h
    have hp : nErr p = 0 := (check_ok h).2 p (List.mem_append_right _ List.mem_cons_self)
    have e : rowsT (p :: x) = rowT p ++ rowsT x := rfl
    rw [List.length_cons, rdAll, e, rdOne_row (hi p List.mem_cons_self) hp]
    simp only [ne_eq, not_true, if_false]
    have e2 : out ++ p :: x = (out ++ [p]) ++ x := by rw [List.append_assoc]; rfl
    rw [e2] at h ⊢
    exact ih (fun q hq => hi q (List.mem_cons_of_mem _ hq)) h
/-- nodes are read as they were written -/
theorem read_write {x : List Nd} {s : Bs} (hi : ∀ n ∈ x, Wn n) (h : write x = (s, 0)) : read s = (x, 0) := by
  unfold write at h
  split at h
  · rename_i q; exact absurd (congrArg (fun q => q.2) h) q
  rename_i q
  have hc := Decidable.not_not.mp q
  split at h
  · exact absurd (congrArg (fun q => q.2) h) (by simp)
  rename_i q2
  obtain rfl : textB x = s := congrArg (fun q => q.1) h
  have hl := (check_ok hc).1
  unfold read
  rw [if_neg q2]
  unfold textB
  rw [num_put (by decide) hl]
  simp only [ne_eq, not_true, if_false]
  exact rdAll_rows hi hc
theorem rdAll_one : ∀ {m : Nat} {s : Bs} {out x : List Nd}, (∀ n ∈ out, Wn n) → rdAll m s out = (x, 0) → ∃ y, x = out ++ y ∧ y.length = m ∧ rowsT y = s ∧ (∀ n ∈ x, Wn n) ∧ check x = 0
  | 0, s, out, x, hi, h => by
    rw [rdAll] at h
    split at h
    · exact absurd (congrArg (fun q => q.2) h) (by simp)
    · rename_i hs
      split at h
      · rename_i hn; exact absurd (congrArg (fun q => q.2) h) hn
      · rename_i hc
        obtain rfl : out = x := congrArg (fun q => q.1) h
        exact ⟨[], by rw [List.append_nil], rfl, by rw [Decidable.not_not.mp hs]; rfl, hi, Decidable.not_not.mp hc⟩
  | m + 1, s, out, x, hi, h => by
    rw [rdAll] at h
    rcases hr : rdOne s with ⟨p, r, e⟩
    rw [hr] at h
    simp only at h
    split at h
    · rename_i hn; exact absurd (congrArg (fun q => q.2) h) hn
    · rename_i h0
      obtain ⟨h8, es⟩ := rdOne_one (hr.trans (by rw [Decidable.not_not.mp h0]))
      obtain ⟨y, e1, e2, e3, e4⟩ := rdAll_one (fun q hq => by
        rcases List.mem_append.1 hq with k | k
        · exact hi q k
        · rw [List.mem_singleton.mp k]; exact h8) h
      refine ⟨p :: y, by rw [e1, List.append_assoc]; rfl, by rw [List.length_cons, e2], ?_, e4⟩
      rw [← es, ← e3]
      rfl
/-- what is read is written as just those bytes -/
theorem write_read {s : Bs} {x : List Nd} (h : read s = (x, 0)) : (∀ n ∈ x, Wn n) ∧ check x = 0 ∧ write x = (s, 0) := by
  unfold read at h
  split at h
  · exact absurd (congrArg (fun q => q.2) h) (by simp)
  rename_i q0
  rcases hg : num 64 s with ⟨n, k, e⟩
  rw [hg] at h
  simp only at h
  split at h
  · rename_i hn; exact absurd (congrArg (fun q => q.2) h) hn
  · rename_i h0
    obtain ⟨_, e1⟩ := num_one (hg.trans (by rw [Decidable.not_not.mp h0]))
    obtain ⟨y, e2, e3, e4, e5, e6⟩ := rdAll_one (fun _ hq => absurd hq List.not_mem_nil) h
    rw [List.nil_append] at e2
    subst e2
    refine ⟨e5, e6, ?_⟩
    have et : textB x = s := by
      unfold textB
      rw [e3, e4, e1]
    unfold write
    rw [if_neg (fun q => q e6), et, if_neg q0]
theorem rdAll_bad : ∀ {m : Nat} {s : Bs} {out : List Nd}, (rdAll m s out).2 ≠ 0 → (rdAll m s out).1 = []
  | 0, s, out, h => by
    rw [rdAll] at h ⊢
    split
    · rfl
    · split
      · rfl
      · rename_i a b; rw [if_neg a, if_neg b] at h; exact absurd rfl h
  | m + 1, s, out, h => by
    rw [rdAll] at h ⊢
    split
    · rfl
    · rename_i a; rw [if_neg a] at h; exact rdAll_bad h
theorem read_bad {s : Bs} (h : (read s).2 ≠ 0) : (read s).1 = [] := by
  unfold read at h ⊢
  simp only at h ⊢
  split
  · rfl
  · split
    · rfl
    · rename_i a b; rw [if_neg a, if_neg b] at h; exact rdAll_bad h
theorem write_bad {x : List Nd} (h : (write x).2 ≠ 0) : (write x).1 = [] := by
  unfold write at h ⊢
  split
  · rfl
  · split
    · rfl
    · rename_i a b; rw [if_neg a, if_neg b] at h; exact absurd rfl h
theorem read_none : read [0] = ([], 0) := rfl
end Td
end Go.Proofs.YtcgecafajgoeeaaDoor
