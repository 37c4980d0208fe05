/-
  Plain facts (no Go in here) on shards that were made of parts.
-/
import Derived.Test.YtoeohnknpbdgdaaDoorShShards
namespace Go.Proofs.YtoeohnknpbdgdaaDoor

theorem hasF_shs {P : List ByteArray} {b n k : Nat} (h : k < n) : hasF (shs P b n) k = bitF b k := by
  unfold hasF
  rw [shs_get h, mk1]
  split
  · next h => exact h.symm
  · next h => simpa using h
theorem byt_shs {P : List ByteArray} {b n k : Nat} (h : k < n) (ht : hasF (shs P b n) k = true) : ((shs P b n).getD k Shd.none).bytes = shd P k := by
  rw [hasF_shs h] at ht
  rw [shs_get h, mk1, if_pos ht]
/-- shards of one length: no error but that too few are there -/
theorem th_get (l : List Shd) : ∀ k s, s ∈ th l k → ∃ i, i < k ∧ hasF l i = true ∧ s = (l.getD i Shd.none).bytes
  | 0, s, h => by cases h
  | k + 1, s, h => by
    rw [th] at h
    split at h
    · next hh =>
      rcases List.mem_append.mp h with h | h
      · obtain ⟨i, h1, h2⟩ := th_get l k s h
        exact ⟨i, by omega, h2⟩
      · exact ⟨k, by omega, hh, List.mem_singleton.mp h⟩
    · obtain ⟨i, h1, h2⟩ := th_get l k s h
      exact ⟨i, by omega, h2⟩
theorem mErr_one {l : List Shd} {n p m : Nat} (hn : 1 ≤ n) (hn2 : n ≤ 16) (hp : 1 ≤ p) (hp2 : p ≤ 8) (hl : l.length = n + p) (hm : m ≤ 4096) (hs : ∀ i, i < n + p → hasF l i = true → (l.getD i Shd.none).bytes.size = m) :
    mErr l n = if Fd.cnt (hasF l) (n + p) < n then 7 else 0 := by
  have hz : sizes (th l l.length) = 0 := by
    unfold sizes
    by_cases h0 : th l l.length = []
    · rw [h0]; rfl
    · have hne : 0 < (th l l.length).length := List.length_pos_iff.mpr h0
      have hall : ∀ s ∈ th l l.length, s.size = m := fun s hs' => by
        obtain ⟨i, h1, h2, rfl⟩ := th_get l _ s hs'
        exact hs i (by omega) h2
      refine szs_ok fun s hs' => ?_
      rw [hall _ (mem_getD hne), hall s hs']
      exact ⟨rfl, hm⟩
  unfold mErr
  rw [show wi n 16 = true from decide_eq_true (by omega), show wi ((l.length : Int) - n) 8 = true from decide_eq_true (by omega), hz, th_cnt, hl]
  simp
/-- the parts that come out have the shards that they were made of -/
theorem Fine.shd {l : List Shd} {n k : Nat} (f : Fine l n) (hk : k < l.length) (ht : hasF l k = true) (hc : Fd.cnt (hasF l) k < n) : shd (mnd l n) k = (l.getD k Shd.none).bytes := by
  unfold Go.Proofs.YtoeohnknpbdgdaaDoor.shd
  rw [mnd_length]
  by_cases h : k < n
  · rw [if_pos h]; exact f.part h ht
  · obtain ⟨j, rfl⟩ := Nat.exists_eq_add_of_le (show n ≤ k by omega)
    rw [if_neg h, Nat.add_sub_cancel_left]
    exact (f.guard hk ht hc).symm
/-- so many are alike as are there, up to n -/
theorem same_cnt {l : List Shd} {n : Nat} {P : List ByteArray} (f : Fine l n) (h : ∀ k, k < l.length → hasF l k = true → Fd.cnt (hasF l) k < n → (l.getD k Shd.none).bytes = shd P k) : ∀ q, q ≤ l.length → min n (Fd.cnt (hasF l) q) ≤ same (mnd l n) P q
  | 0, _ => by show min n 0 ≤ 0; omega
  | q + 1, hq => by
    have ih := same_cnt f h q (by omega)
    rw [same, Fd.cnt]
    cases ht : hasF l q
    · simp; omega
    · simp only [if_true]
      by_cases hc : Fd.cnt (hasF l) q < n
      · rw [if_pos (by rw [f.shd (by omega) ht hc, h q (by omega) ht hc])]; omega
      · omega
/-- REED, SOLOMON: of n shards that are there the parts come -/
theorem mnd_all {l : List Shd} {n p m : Nat} {P : List ByteArray} (f : Fine l n) (hl : l.length = n + p) (hp2 : p ≤ 8) (hP : P.length = n) (hm : ∀ s ∈ P, s.size = m) (hlen : lenF l = m) (h : ∀ k, k < l.length → hasF l k = true → Fd.cnt (hasF l) k < n → (l.getD k Shd.none).bytes = shd P k) : mnd l n = P := by
  have h1 := same_cnt f h (n + p) (by omega)
  have h2 := f.cnt
  rw [show n + (l.length - n) = n + p from by omega] at h2
  exact same_all (m := m) (q := n + p) (by rw [mnd_length]; exact f.n1) (by rw [mnd_length]; exact f.n16) (by rw [mnd_length]; exact hP) (fun s hs => by rw [← hlen]; exact f.sizes s hs) hm (by rw [mnd_length]; omega) (by rw [mnd_length]; omega)
/-- the length of those that are there -/
theorem lenF_of {l : List Shd} {n m : Nat} (f : Fine l n) (h : ∀ i, i < l.length → hasF l i = true → (l.getD i Shd.none).bytes.size = m) : lenF l = m := by
  have h1 := f.cnt
  have hl := f.more
  rw [show n + (l.length - n) = l.length from by omega] at h1
  have hn := f.n1
  have hne : 0 < (th l l.length).length := by rw [th_cnt]; omega
  obtain ⟨i, h2, h3, h4⟩ := th_get l _ _ (mem_getD (P := th l l.length) (i := 0) hne)
  unfold lenF
  rw [h4]
  exact h i h2 h3
theorem shs_sizes {P : List ByteArray} {p b : Nat} (he : gErr P p = 0) : ∀ i, i < P.length + p → hasF (shs P b (P.length + p)) i = true → ((shs P b (P.length + p)).getD i Shd.none).bytes.size = (P.getD 0 ByteArray.empty).size := fun i hi ht => by
  obtain ⟨h1, _, _, _, h5⟩ := gErr_zero he
  rw [byt_shs hi ht]
  exact shd_size h1 (sizes_zero h5)
theorem mErr_shs {P : List ByteArray} {p b : Nat} (he : gErr P p = 0) : mErr (shs P b (P.length + p)) P.length = if Fd.cnt (hasF (shs P b (P.length + p))) (P.length + p) < P.length then 7 else 0 := by
  obtain ⟨h1, h2, h3, h4, h5⟩ := gErr_zero he
  exact mErr_one h1 h2 (by omega) (by omega) (shs_length _ _ _) (sizes_le h5) (shs_sizes he)
theorem mnd_shs {P : List ByteArray} {p b : Nat} (he : gErr P p = 0) (f : Fine (shs P b (P.length + p)) P.length) : mnd (shs P b (P.length + p)) P.length = P := by
  obtain ⟨h1, h2, h3, h4, h5⟩ := gErr_zero he
  refine mnd_all f (shs_length _ _ _) (by omega) rfl (sizes_zero h5) (lenF_of f fun i hi ht => ?_) fun k hk ht _ => ?_
  · rw [shs_length] at hi; exact shs_sizes he i hi ht
  · rw [shs_length] at hk; exact byt_shs hk ht
theorem ckd_shs {P : List ByteArray} {p b : Nat} (he : gErr P p = 0) (f : Fine (shs P b (P.length + p)) P.length) {z : Nat} (hz : ckd (shs P b (P.length + p)) P.length z) : z = 0 := by
  rcases hz with ⟨_, j, h1, h2, h3⟩ | ⟨h1, _⟩
  · rw [shs_length] at h1
    rw [mnd_shs he f, byt_shs h1 h2] at h3
    exact absurd (by unfold shd; rw [if_neg (by omega), Nat.add_sub_cancel_left]) h3
  · exact h1
end Go.Proofs.YtoeohnknpbdgdaaDoor
