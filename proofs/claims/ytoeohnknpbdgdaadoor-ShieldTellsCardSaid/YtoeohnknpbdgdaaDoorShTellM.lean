/-
  Plain facts (no Go in here): of more than n shards one that was changed is told.
-/
import Derived.Test.YtoeohnknpbdgdaaDoorShAnyM
namespace Go.Proofs.YtoeohnknpbdgdaaDoor

theorem set_getD (l : List Shd) (i : Nat) (t : Shd) (k : Nat) (hi : i < l.length) : (l.set i t).getD k Shd.none = if k = i then t else l.getD k Shd.none := by
  rw [List.getD_eq_getElem?_getD, List.getElem?_set]
  by_cases e : i = k
  · subst e; rw [if_pos rfl, if_pos hi, if_pos rfl]; rfl
  · rw [if_neg e, if_neg (fun e' => e e'.symm), ← List.getD_eq_getElem?_getD]
theorem hasF_set {l : List Shd} {i : Nat} {s : ByteArray} (hi : i < l.length) (ht : hasF l i = true) : hasF (l.set i ⟨true, s⟩) = hasF l := by
  funext k
  unfold hasF
  rw [set_getD l i _ k hi]
  by_cases e : k = i
  · subst e; rw [if_pos rfl]; exact ht.symm
  · rw [if_neg e]
/-- all that are there but one are alike -/
theorem same_but {l : List Shd} {n i : Nat} {P : List ByteArray} (h : ∀ k, k < l.length → k ≠ i → hasF l k = true → shd (mnd l n) k = shd P k) : ∀ q, q ≤ l.length → Fd.cnt (hasF l) q ≤ same (mnd l n) P q + if i < q then 1 else 0
  | 0, _ => by show 0 ≤ _; omega
  | q + 1, hq => by
    have ih := same_but h q (by omega)
    rw [same, Fd.cnt]
    by_cases e : q = i
    · subst e
      rw [if_neg (Nat.lt_irrefl q)] at ih
      rw [if_pos (show q < q + 1 by omega)]
      split <;> split <;> omega
    · cases ht : hasF l q
      · simp only [Bool.false_eq_true, if_false]
        split at ih
        · rw [if_pos (show i < q + 1 by omega)]; omega
        · omega
      · rw [if_pos (h q (by omega) e ht)]
        simp only [if_true]
        split at ih
        · rw [if_pos (show i < q + 1 by omega)]; omega
        · omega
theorem mErr_told {P : List ByteArray} {p b i : Nat} {s : ByteArray} (he : gErr P p = 0) (hi : i < P.length + p) (ht : hasF (shs P b (P.length + p)) i = true) (hs : s.size = (P.getD 0 ByteArray.empty).size) (hc : P.length < Fd.cnt (hasF (shs P b (P.length + p))) (P.length + p)) : mErr ((shs P b (P.length + p)).set i ⟨true, s⟩) P.length = 0 := by
  obtain ⟨h1, h2, h3, h4, h5⟩ := gErr_zero he
  have hf := hasF_set (s := s) (by rw [shs_length]; exact hi) ht
  rw [mErr_one (m := (P.getD 0 ByteArray.empty).size) h1 h2 (p := p) (by omega) (by omega) (by rw [List.length_set, shs_length]) (sizes_le h5), hf, if_neg (by omega)]
  intro k hk hk2
  rw [set_getD _ _ _ _ (by rw [shs_length]; exact hi)]
  split
  · exact hs
  · rw [hf] at hk2
    exact shs_sizes he k hk hk2
theorem told {P : List ByteArray} {p b i : Nat} {s : ByteArray} (he : gErr P p = 0) (hi : i < P.length + p) (ht : hasF (shs P b (P.length + p)) i = true) (hs : s.size = (P.getD 0 ByteArray.empty).size) (hc : P.length < Fd.cnt (hasF (shs P b (P.length + p))) (P.length + p)) (hne : s ≠ shd P i) {z : Nat} (hz : ckd ((shs P b (P.length + p)).set i ⟨true, s⟩) P.length z) : z = 6 := by
  obtain ⟨h1, h2, h3, h4, h5⟩ := gErr_zero he
  have f := fine_of (mErr_told he hi ht hs hc)
  have hil : i < (shs P b (P.length + p)).length := by rw [shs_length]; exact hi
  have hf := hasF_set (s := s) hil ht
  rcases hz with ⟨hz, _⟩ | ⟨_, hno⟩
  · exact hz
  · exfalso
    generalize hL : (shs P b (P.length + p)).set i ⟨true, s⟩ = L at *
    have hlen : L.length = P.length + p := by rw [← hL, List.length_set, shs_length]
    -- each that is there is that of the parts that come out
    have hall : ∀ k, k < L.length → hasF L k = true → shd (mnd L P.length) k = (L.getD k Shd.none).bytes := fun k hk htk => by
      unfold shd
      rw [mnd_length]
      by_cases h : k < P.length
      · rw [if_pos h]; exact f.part h htk
      · obtain ⟨j, rfl⟩ := Nat.exists_eq_add_of_le (show P.length ≤ k by omega)
        rw [if_neg h, Nat.add_sub_cancel_left]
        exact (Classical.byContradiction fun hh => hno j hk ⟨htk, hh⟩ : (L.getD (P.length + j) Shd.none).bytes = Fd.guard (mnd L P.length) j).symm
    have hbyt : ∀ k, k < L.length → k ≠ i → hasF L k = true → shd (mnd L P.length) k = shd P k := fun k hk hki htk => by
      rw [hall k hk htk, ← hL, set_getD _ _ _ _ hil, if_neg hki]
      rw [hf] at htk
      exact byt_shs (by omega) htk
    have hcount := same_but hbyt (P.length + p) (by omega)
    rw [hf, if_pos hi] at hcount
    have hsz : lenF L = (P.getD 0 ByteArray.empty).size := lenF_of f fun k hk htk => by
      rw [← hL, set_getD _ _ _ _ hil]
      split
      · exact hs
      · rw [hf] at htk
        exact shs_sizes he k (by omega) htk
    have hP : mnd L P.length = P := same_all (m := (P.getD 0 ByteArray.empty).size) (q := P.length + p) (by rw [mnd_length]; exact h1) (by rw [mnd_length]; exact h2) (by rw [mnd_length]) (fun t h => by rw [← hsz]; exact f.sizes t h) (sizes_zero h5) (by rw [mnd_length]; omega) (by rw [mnd_length]; omega)
    have := hall i (by omega) (by rw [hf]; exact ht)
    rw [hP, ← hL, set_getD _ _ _ _ hil, if_pos rfl] at this
    exact hne this.symm
/-- a byte changed: another text of the same length -/
theorem chg {s : ByteArray} {r x : Nat} (hr : r < s.size) (hx : x < 256) (h0 : x ≠ 0) : Fd.Bs ((nb s).set r ((nb s).getD r 0 ^^^ x)) ∧ (bn ((nb s).set r ((nb s).getD r 0 ^^^ x))).size = s.size ∧ bn ((nb s).set r ((nb s).getD r 0 ^^^ x)) ≠ s := by
  have hb : Fd.Bs ((nb s).set r ((nb s).getD r 0 ^^^ x)) := fun c hc => by
    rcases List.mem_or_eq_of_mem_set hc with h | h
    · exact nb_bs s c h
    · rw [h]; exact Fd.xor_lt8 (Fd.get_lt (nb_bs s) r) hx
  refine ⟨hb, by rw [bn_size, List.length_set, nb_length], fun e => ?_⟩
  have e2 := congrArg (fun t => (nb t).getD r 0) e
  rw [nb_bn hb, List.getD_eq_getElem?_getD, List.getElem?_set, if_pos rfl, if_pos (by rw [nb_length]; exact hr)] at e2
  have e3 : (nb s).getD r 0 ^^^ x = (nb s).getD r 0 := e2
  have e4 : x = 0 := by
    have : (nb s).getD r 0 ^^^ ((nb s).getD r 0 ^^^ x) = (nb s).getD r 0 ^^^ (nb s).getD r 0 := by rw [e3]
    rwa [← Nat.xor_assoc, Nat.xor_self, Nat.zero_xor] at this
  exact h0 e4
end Go.Proofs.YtoeohnknpbdgdaaDoor
