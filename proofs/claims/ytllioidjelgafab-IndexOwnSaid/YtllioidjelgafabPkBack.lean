/-
  P28 to P30 (no Go in it): what is packed is listed, found and split as it was; a changed byte is told; what is told has its digest.
-/
import Derived.Test.YtllioidjelgafabPkMath
namespace Go.Proofs.Ytllioidjelgafab
namespace Pk

theorem two_back (n : Nat) (h : n < 65536) : (UInt8.ofNat (n % 256)).toNat + 256 * (UInt8.ofNat (n / 256)).toNat = n := by
  rw [UInt8.toNat_ofNat', UInt8.toNat_ofNat']
  omega
theorem two_length (n : Nat) : (two n).length = 2 := rfl
theorem rowB_length (b : Bl) (p : Bs) : (rowB b p).length ≤ 18 := by
  have h1 := bid_length b
  have h2 := Nm.put_length p.length
  rw [rowB, List.length_cons, List.length_append]
  omega
theorem rowsB_length : ∀ (l : List Bl) (ps : List Bs), (rowsB l ps).length ≤ 18 * l.length
  | [], _ => by simp [rowsB]
  | _ :: _, [] => by simp [rowsB]
  | b :: l, p :: ps => by
    have h1 := rowB_length b p
    have h2 := rowsB_length l ps
    rw [rowsB, List.length_append, List.length_cons]
    omega
theorem listB_length (l : List Bl) (ps : List Bs) (h : l.length ≤ 40) : (listB l ps).length ≤ 729 := by
  have h1 := rowsB_length l ps
  have h2 := Nm.put_length l.length
  rw [listB, List.length_append]
  omega
theorem packB_length (l : List Bl) (ps : List Bs) : (packB l ps).length = ps.flatten.length + (listB l ps).length + 10 := by
  rw [packB, List.length_append, dg_length, allB, List.length_append, List.length_append, two_length]
  omega
theorem flatten_le : ∀ (ps : List Bs), (∀ p ∈ ps, p.length ≤ 4097) → ps.flatten.length ≤ 4097 * ps.length
  | [], _ => by simp
  | p :: ps, h => by
    have h1 := h p (List.mem_cons_self ..)
    have h2 := flatten_le ps fun q hq => h q (List.mem_cons_of_mem _ hq)
    rw [List.flatten_cons, List.length_append, List.length_cons]
    omega

/-- what is packed is listed -/
theorem ls_pack (l : List Bl) (ps : List Bs) (hl : l.length = ps.length) (he : makeErr l = 0) (hp : ∀ p ∈ ps, p.length ≤ 4097) : ls (packB l ps) = (entsOf l ps 0, 0) := by
  unfold makeErr at he
  by_cases h40 : 40 < l.length
  · rw [if_pos h40] at he; omega
  rw [if_neg h40] at he
  have hL := listB_length l ps (by omega)
  have hN := packB_length l ps
  have hA : (allB l ps).length = ps.flatten.length + (listB l ps).length + 2 := by
    rw [allB, List.length_append, List.length_append, two_length]; omega
  have htk : (packB l ps).take ((packB l ps).length - 8) = allB l ps := by
    rw [packB, List.take_append_of_le_length (by rw [← packB]; omega), List.take_of_length_le (by rw [← packB]; omega)]
  have hdr : (packB l ps).drop ((packB l ps).length - 8) = dg (allB l ps) := by
    rw [packB, List.drop_append_of_le_length (by rw [← packB]; omega), List.drop_of_length_le (by rw [← packB]; omega), List.nil_append]
  have hform : packB l ps = (ps.flatten ++ listB l ps) ++ (two (listB l ps).length ++ dg (allB l ps)) := by
    rw [packB]
    generalize dg (allB l ps) = d
    rw [allB]; simp only [List.append_assoc]
  have hpre : (ps.flatten ++ listB l ps).length = (packB l ps).length - 10 := by rw [List.length_append]; omega
  have hb0 : (packB l ps).getD ((packB l ps).length - 10) 0 = UInt8.ofNat ((listB l ps).length % 256) := by
    rw [← hpre, hform, List.getD_eq_getElem?_getD, List.getElem?_append_right (Nat.le_refl _), Nat.sub_self]; rfl
  have hb1 : (packB l ps).getD ((packB l ps).length - 9) 0 = UInt8.ofNat ((listB l ps).length / 256) := by
    rw [show (packB l ps).length - 9 = (ps.flatten ++ listB l ps).length + 1 from by omega, hform, List.getD_eq_getElem?_getD, List.getElem?_append_right (by omega), Nat.add_sub_cancel_left]; rfl
  have hlen : lenL (packB l ps) = (listB l ps).length := by
    unfold lenL
    rw [hb0, hb1]
    exact two_back _ (by omega)
  have hmid : ((packB l ps).take ((packB l ps).length - 10)).drop ((packB l ps).length - 10 - (listB l ps).length) = listB l ps := by
    rw [← hpre, hform, List.take_append_of_le_length (Nat.le_refl _), List.take_of_length_le (Nat.le_refl _), List.length_append, Nat.add_sub_cancel, List.drop_append_of_le_length (Nat.le_refl _), List.drop_of_length_le (Nat.le_refl _), List.nil_append]
  unfold ls
  rw [if_neg (by omega), htk, hdr, if_neg (fun h => h rfl), hlen, if_neg (by omega), hmid, show (packB l ps).length - 10 - (listB l ps).length = ps.flatten.length from by omega]
  have hg := Nm.get_put l.length (rowsB l ps) (by omega)
  have hd : (listB l ps).drop (Nm.put l.length).length = rowsB l ps := by
    rw [listB, List.drop_append_of_le_length (Nat.le_refl _), List.drop_of_length_le (Nat.le_refl _), List.nil_append]
  unfold lst
  rw [show Nm.getN (listB l ps) = (l.length, (Nm.put l.length).length, 0) from hg]
  simp only [hd]
  rw [if_neg (fun h => h rfl), if_neg h40, ents_rows _ l [] ps 0 [] hl he rfl hp (by omega), List.nil_append]

/-- each blob at its place -/
theorem one_of (op : Bs → Bs × Int) (b : Bl) (p pre post : Bs) (hb : bErr b = 0) (hop : op p = (b.2, 0)) :
    one op (pre ++ (p ++ post)) ⟨bid b, b.1, (pre.length : Nat), (p.length : Nat)⟩ = (b, 0) := by
  obtain ⟨hk, _⟩ := bErr_ok hb
  have e : ((pre ++ (p ++ post)).drop pre.length).take p.length = p := by
    rw [List.drop_append_of_le_length (Nat.le_refl _), List.drop_of_length_le (Nat.le_refl _), List.nil_append, List.take_append_of_le_length (Nat.le_refl _), List.take_of_length_le (Nat.le_refl _)]
  unfold one
  rw [if_neg (by simp only [List.length_append]; omega), if_neg (fun h => h hk)]
  simp only [Int.toNat_natCast, e, hop]
  rw [if_neg (fun h => h rfl), if_neg (fun h => h rfl)]
theorem mErr_each : ∀ (l was : List Bl), mErr was l = 0 → ∀ b ∈ l, bErr b = 0
  | [], _, _, _, hb => by simp at hb
  | a :: l, was, h, b, hb => by
    rw [mErr] at h
    by_cases e0 : bErr a ≠ 0
    · rw [if_pos e0] at h; exact absurd h e0
    rw [if_neg e0] at h
    split at h
    · omega
    split at h
    · omega
    rcases List.mem_cons.1 hb with rfl | hb
    · exact Classical.not_not.1 e0
    · exact mErr_each l _ h b hb
/-- blobs and what they are pressed to -/
def Prs (op : Bs → Bs × Int) : List Bl → List Bs → Prop
  | [], [] => True
  | b :: l, p :: ps => op p = (b.2, 0) ∧ p.length ≤ 4097 ∧ Prs op l ps
  | _, _ => False
theorem Prs.length {op : Bs → Bs × Int} : ∀ {l : List Bl} {ps : List Bs}, Prs op l ps → l.length = ps.length
  | [], [], _ => rfl
  | [], _ :: _, h => h.elim
  | _ :: _, [], h => h.elim
  | _ :: l, _ :: ps, h => by rw [List.length_cons, List.length_cons, Prs.length h.2.2]
theorem Prs.le {op : Bs → Bs × Int} : ∀ {l : List Bl} {ps : List Bs}, Prs op l ps → ∀ p ∈ ps, p.length ≤ 4097
  | [], [], _, _, hp => by simp at hp
  | [], _ :: _, h, _, _ => h.elim
  | _ :: _, [], h, _, _ => h.elim
  | _ :: l, q :: ps, h, p, hp => by
    rcases List.mem_cons.1 hp with rfl | hp
    · exact h.2.1
    · exact Prs.le h.2.2 p hp
/-- every row of the list tells its blob -/
theorem one_each (op : Bs → Bs × Int) (s post : Bs) : ∀ (l : List Bl) (ps : List Bs) (pre : Bs), Prs op l ps → (∀ b ∈ l, bErr b = 0) → s = pre ++ (ps.flatten ++ post) →
    ∀ (i : Nat) (h : i < l.length), ∃ x, (entsOf l ps pre.length)[i]? = some x ∧ one op s x = (l[i], 0) ∧ x.id = bid l[i] ∧ x.kind = l[i].1
  | [], _, _, _, _, _, i, h => by simp at h
  | _ :: _, [], _, h, _, _, _, _ => h.elim
  | b :: l, p :: ps, pre, hP, hb, hs, i, h => by
    cases i with
    | zero =>
      refine ⟨_, rfl, ?_, rfl, rfl⟩
      rw [hs, List.flatten_cons, List.append_assoc]
      exact one_of op b p pre _ (hb b (List.mem_cons_self ..)) hP.1
    | succ i =>
      have := one_each op s post l ps (pre ++ p) hP.2.2 (fun a ha => hb a (List.mem_cons_of_mem _ ha)) (by rw [hs, List.flatten_cons]; simp only [List.append_assoc]) i (by simpa using h)
      rw [List.length_append] at this
      exact this
theorem ones_all (op : Bs → Bs × Int) (s post : Bs) : ∀ (l : List Bl) (ps : List Bs) (pre : Bs) (out : List Bl), Prs op l ps → (∀ b ∈ l, bErr b = 0) → s = pre ++ (ps.flatten ++ post) →
    ones op s (entsOf l ps pre.length) out = (out ++ l, 0)
  | [], [], _, out, _, _, _ => by simp [entsOf, ones]
  | [], _ :: _, _, _, h, _, _ => h.elim
  | _ :: _, [], _, _, h, _, _ => h.elim
  | b :: l, p :: ps, pre, out, hP, hb, hs => by
    have h1 : one op s ⟨bid b, b.1, (pre.length : Nat), (p.length : Nat)⟩ = (b, 0) := by
      rw [hs, List.flatten_cons, List.append_assoc]
      exact one_of op b p pre _ (hb b (List.mem_cons_self ..)) hP.1
    have h2 := ones_all op s post l ps (pre ++ p) (out ++ [b]) hP.2.2 (fun a ha => hb a (List.mem_cons_of_mem _ ha)) (by rw [hs, List.flatten_cons]; simp only [List.append_assoc])
    rw [List.length_append] at h2
    rw [entsOf, ones, h1, if_neg (fun h => h rfl), h2, List.append_assoc]
    rfl
theorem packB_form (l : List Bl) (ps : List Bs) : packB l ps = [] ++ (ps.flatten ++ (listB l ps ++ two (listB l ps).length ++ dg (allB l ps))) := by
  rw [packB]
  generalize dg (allB l ps) = d
  rw [allB, List.nil_append, List.append_assoc, List.append_assoc]
theorem makeErr_each {l : List Bl} (h : makeErr l = 0) : ∀ b ∈ l, bErr b = 0 := by
  unfold makeErr at h
  split at h
  · omega
  · exact mErr_each l [] h
/-- PackBack's own -/
theorem split_pack (op : Bs → Bs × Int) (l : List Bl) (ps : List Bs) (he : makeErr l = 0) (hP : Prs op l ps) : split op (packB l ps) = (l, 0) := by
  rw [split, ls_pack l ps hP.length he hP.le, if_neg (fun h => h rfl)]
  exact ones_all op _ _ l ps [] [] hP (makeErr_each he) (packB_form l ps)
theorem one_pack (op : Bs → Bs × Int) (l : List Bl) (ps : List Bs) (he : makeErr l = 0) (hP : Prs op l ps) (i : Nat) (h : i < l.length) :
    ∃ x, (entsOf l ps 0)[i]? = some x ∧ one op (packB l ps) x = (l[i], 0) ∧ x.id = bid l[i] ∧ x.kind = l[i].1 :=
  one_each op _ _ l ps [] hP (makeErr_each he) (packB_form l ps) i h

theorem dg_inj (s t : Bs) (h : dg s = dg t) : Mx.narrow 64 s = Mx.narrow 64 t := by
  unfold dg at h
  exact low8_inj (Mx.narrow_lt 64 s) (Mx.narrow_lt 64 t) h
theorem byte_take (u : Bs) (n j : Nat) : Mx.byteAt (u.take n) j = if j < n then (u.getD j 0).toNat else 0 := by
  unfold Mx.byteAt
  rw [List.getD_eq_getElem?_getD, List.getElem?_take]
  split
  · rw [List.getD_eq_getElem?_getD]
  · rfl
/-- texts of one length that are unlike in one byte have unlike digests -/
theorem dg_other (s t : Bs) (k n : Nat) (hl : s.length = t.length) (hsz : s.length < 18446744073709551616) (hkn : k < n) (hne : s.getD k 0 ≠ t.getD k 0) (hsame : ∀ j, j ≠ k → s.getD j 0 = t.getD j 0) : dg (s.take n) ≠ dg (t.take n) := by
  intro h
  have heq := Mx.apart (s.take n) (t.take n) (k / 8) (by rw [List.length_take, List.length_take, hl]) (by rw [List.length_take]; exact Nat.lt_of_le_of_lt (Nat.min_le_right _ _) hsz) (fun j hj => by
    rw [byte_take, byte_take, hsame j (fun e => hj (by rw [e]))]) (dg_inj _ _ h)
  have h1 := byte_take s n k
  have h2 := byte_take t n k
  rw [if_pos hkn] at h1 h2
  rw [heq] at h1
  exact hne (UInt8.toNat_inj.1 (h1.symm.trans h2))
/-- PackTells' own: of a pack in which one byte was changed nothing is told -/
theorem ls_other (s t : Bs) (k : Nat) (hl : s.length = t.length) (hsz : s.length < 18446744073709551616) (hs : (ls s).2 = 0) (hk : k < s.length) (hne : s.getD k 0 ≠ t.getD k 0) (hsame : ∀ j, j ≠ k → s.getD j 0 = t.getD j 0) : ls t = ([], 6) := by
  unfold ls at hs
  by_cases h10 : s.length < 10
  · rw [if_pos h10] at hs; simp at hs
  rw [if_neg h10] at hs
  by_cases hsum : dg (s.take (s.length - 8)) ≠ s.drop (s.length - 8)
  · rw [if_pos hsum] at hs; simp at hs
  clear hs
  have hsum := Classical.not_not.1 hsum
  unfold ls
  rw [← hl, if_neg h10, if_pos]
  intro ht
  by_cases hlt : k < s.length - 8
  · have hd : s.drop (s.length - 8) = t.drop (s.length - 8) := by
      apply List.ext_getElem?
      intro i
      rw [List.getElem?_drop, List.getElem?_drop]
      by_cases hi : s.length - 8 + i < s.length
      · have := hsame (s.length - 8 + i) (by omega)
        rw [List.getD_eq_getElem?_getD, List.getD_eq_getElem?_getD, List.getElem?_eq_getElem hi, List.getElem?_eq_getElem (by omega)] at this
        rw [List.getElem?_eq_getElem hi, List.getElem?_eq_getElem (by omega)]
        exact congrArg some this
      · rw [List.getElem?_eq_none (by omega), List.getElem?_eq_none (by omega)]
    exact dg_other s t k _ hl hsz hlt hne hsame (by rw [hsum, hd, ht])
  · have htk : s.take (s.length - 8) = t.take (s.length - 8) := by
      apply List.ext_getElem?
      intro i
      rw [List.getElem?_take, List.getElem?_take]
      by_cases hi : i < s.length - 8
      · rw [if_pos hi, if_pos hi]
        have := hsame i (by omega)
        rw [List.getD_eq_getElem?_getD, List.getD_eq_getElem?_getD, List.getElem?_eq_getElem (by omega), List.getElem?_eq_getElem (by omega)] at this
        rw [List.getElem?_eq_getElem (by omega), List.getElem?_eq_getElem (by omega)]
        exact congrArg some this
      · rw [if_neg hi, if_neg hi]
    have hd : s.drop (s.length - 8) = t.drop (s.length - 8) := by rw [← hsum, htk, ht]
    have := congrArg (fun u => u[k - (s.length - 8)]?) hd
    simp only [List.getElem?_drop] at this
    rw [show s.length - 8 + (k - (s.length - 8)) = k from by omega] at this
    apply hne
    rw [List.getD_eq_getElem?_getD, List.getD_eq_getElem?_getD, this]
theorem split_other (op : Bs → Bs × Int) (t : Bs) (h : ls t = ([], 6)) : split op t = ([], 6) := by
  rw [split, h, if_pos (by decide)]

/-- PackTrue's own: a blob that is told has the digest that it was looked for by -/
theorem one_true (op : Bs → Bs × Int) (s : Bs) (x : En) (hop : ∀ u, (op u).2 = 0 → (op u).1.length ≤ 4096) :
    ((one op s x).2 ≠ 0 → (one op s x).1 = (0, [])) ∧ ((one op s x).2 = 0 → bErr (one op s x).1 = 0 ∧ bid (one op s x).1 = x.id ∧ (one op s x).1.1 = x.kind) := by
  unfold one
  split
  · exact ⟨fun _ => rfl, fun h => by simp at h⟩
  split
  · exact ⟨fun _ => rfl, fun h => by simp at h⟩
  rename_i hk
  simp only
  split
  · rename_i h0
    exact ⟨fun _ => rfl, fun h => absurd h h0⟩
  rename_i h0
  split
  · exact ⟨fun _ => rfl, fun h => by simp at h⟩
  rename_i h1
  refine ⟨fun h => absurd rfl h, fun _ => ⟨?_, Classical.not_not.1 h1, rfl⟩⟩
  unfold bErr
  have := hop _ (Classical.not_not.1 h0)
  rw [if_pos (Classical.not_not.1 hk), if_neg (by show ¬ 4096 < (op _).1.length; omega)]
end Pk
end Go.Proofs.Ytllioidjelgafab
