/-
  P22 (no Go in it): whatever is opened, no more than a file comes out, or an error and nothing; a sign's word bit by bit.
-/
import Derived.Test.YtgdkfaphbbdnbaaPrSpec
namespace Go.Proofs.Ytgdkfaphbbdnbaa
namespace Pr

/-- an answer of up to so many bytes, or an error and nothing -/
def Fine (m : Nat) (a : Bs × Int) : Prop := a.1.length ≤ m ∧ (a.2 = 0 ∨ a.1 = [])
theorem Fine.err (m : Nat) (e : Int) : Fine m ([], e) := ⟨Nat.zero_le _, .inr rfl⟩
theorem Fine.mono {m n : Nat} {a : Bs × Int} (h : Fine m a) (hm : m ≤ n) : Fine n a := ⟨Nat.le_trans h.1 hm, h.2⟩
theorem opT_fine (n : Nat) (T : Bs) : Fine n (opT n T) := by
  unfold opT
  split
  · exact .err _ _
  split
  · exact .err _ _
  split
  · exact .err _ _
  rename_i h1 h2 _
  refine ⟨?_, .inl rfl⟩
  cases e1 : Lz.rdA [] T with
  | mk l q =>
    rw [e1] at h1 h2
    obtain rfl : q = 0 := by simp at h1; omega
    obtain ⟨m, hm, _, hg, _⟩ := Lz.pack_read T.length T (Nat.le_refl _) [] l e1 (by simp)
    rw [List.nil_append] at hm
    subst hm
    cases e2 : Lz.ex n [] l with
    | mk u q =>
      rw [e2] at h2
      obtain rfl : q = 0 := by simp at h2; omega
      exact (Lz.ex_makes hg e2 (by simp)).2.2
theorem opS_fine (n m : Nat) (wide : List Nat) (s : Bs) : Fine n (opS n m wide s) := by
  unfold opS
  split
  · exact .err _ _
  split
  · exact .err _ _
  · exact .err _ _
  · split
    · exact opT_fine _ _
    · exact .err _ _
theorem nums_le (m : Nat) (ms : List Nat) (s : Bs) : (nums (m :: ms) s).1.getD 0 0 ≤ m := by
  rw [nums]
  split
  · exact Nat.zero_le _
  split
  · exact Nat.zero_le _
  split
  · exact Nat.zero_le _
  · rename_i h1 _
    show (Nm.getN s).1 ≤ m
    omega
theorem opC_fine (s : Bs) : Fine 4096 (opC s) := by
  unfold opC
  split
  · exact .err _ _
  have hn := nums_le 4096 [12288, 256] s
  simp only []
  split
  · exact .err _ _
  · exact (opS_fine _ _ _ _).mono hn
theorem op_fine (s : Bs) : Fine 4096 (op s) := by
  unfold op
  split
  · exact .err _ _
  split
  · split
    · exact .err _ _
    · rename_i h
      exact ⟨Nat.not_lt.1 h, .inl rfl⟩
  split
  · exact opC_fine _
  · exact .err _ _
theorem op_some {s : Bs} (h : (op s).2 = 0) : 0 < s.length := by
  cases s with
  | nil => exact absurd h (by decide)
  | cons _ _ => rw [List.length_cons]; omega
/-- a word stands in front where so many bits are there and their number is its code -/
theorem fits_val {l : List Nat} (g : Good l) {b : List Bool} {i : Nat} : fits l b i = true ↔ i < l.length ∧ 0 < l.getD i 0 ∧ l.getD i 0 ≤ b.length ∧ val (b.take (l.getD i 0)) = Hf.code l i := by
  rw [fits_iff]
  constructor
  · rintro ⟨h1, h2, h3⟩
    refine ⟨h1, h2, ?_, ?_⟩
    · have := congrArg List.length h3
      rw [W_length, List.length_take] at this
      omega
    · rw [h3]
      exact val_wd (g.lt h1 h2)
  · rintro ⟨h1, h2, h3, h4⟩
    refine ⟨h1, h2, ?_⟩
    have := wd_val (b.take (l.getD i 0))
    rw [List.length_take, Nat.min_eq_left h3, h4] at this
    exact this.symm
theorem val_take {b : List Bool} {k : Nat} (h : k < b.length) : val (b.take (k + 1)) = 2 * val (b.take k) + (if b[k] then 1 else 0) := by
  rw [List.take_add_one, List.getElem?_eq_getElem h]
  exact val_snoc _ _
theorem val_take_lt (b : List Bool) (k : Nat) : val (b.take k) < 2 ^ k := by
  refine Nat.lt_of_lt_of_le (val_lt _) (Nat.pow_le_pow_right (by omega : 2 > 0) ?_)
  rw [List.length_take]
  omega
/-- no sign of up to k bits stands in front -/
def Not (l : List Nat) (b : List Bool) (k : Nat) : Prop := ∀ i, fits l b i = true → k < l.getD i 0
theorem Not.start (l : List Nat) (b : List Bool) : Not l b 0 := fun _ h => (fits_iff.1 h).2.1
theorem Not.next {l : List Nat} (g : Good l) {b : List Bool} {k : Nat} (h : Not l b k) (hn : ∀ i, i < l.length → l.getD i 0 = k + 1 → val (b.take (k + 1)) ≠ Hf.code l i) : Not l b (k + 1) := by
  intro i hi
  have h1 := h i hi
  obtain ⟨f1, f2, f3, f4⟩ := (fits_val g).1 hi
  by_cases e : l.getD i 0 = k + 1
  · rw [e] at f4
    exact absurd f4 (hn i f1 e)
  · omega
theorem Not.none {l : List Nat} (g : Good l) {b : List Bool} {k : Nat} (h : Not l b k) (hk : k = 48 ∨ k = b.length) : front l b = .none := by
  rw [front_none]
  intro i
  cases e : fits l b i with
  | false => rfl
  | true =>
    have h1 := h i e
    obtain ⟨_, _, f3, _⟩ := (fits_val g).1 e
    have := g.le i
    omega
theorem front_hit {l : List Nat} (g : Good l) {b : List Bool} {k i : Nat} (hk : k ≤ b.length) (hi : i < l.length) (h0 : 0 < k) (e : l.getD i 0 = k) (hv : val (b.take k) = Hf.code l i) : front l b = some i :=
  (front_some g).2 ((fits_val g).2 ⟨hi, by omega, by omega, by rw [e]; exact hv⟩)
end Pr
end Go.Proofs.Ytgdkfaphbbdnbaa
