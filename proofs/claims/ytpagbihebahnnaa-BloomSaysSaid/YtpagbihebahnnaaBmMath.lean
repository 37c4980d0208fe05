/-
  P34, P35 (no Go in it): sixteen words as 1024 bits; what is put in, what is joined, how many bits are 1.
-/
import Derived.Test.YtpagbihebahnnaaMath
namespace Go.Proofs.Ytpagbihebahnnaa
namespace Bm

/-- bit k of the words b -/
def bit (b : List Nat) (k : Nat) : Bool := (b.getD (k / 64) 0).testBit (k % 64)
/-- sixteen words of 64 bits -/
structure Ok (b : List Nat) : Prop where
  len : b.length = 16
  lt : ∀ x ∈ b, x < 18446744073709551616
def none_ : List Nat := List.replicate 16 0
theorem none_ok : Ok none_ := ⟨rfl, fun x hx => by rw [List.eq_of_mem_replicate hx]; decide⟩
theorem none_bit (k : Nat) : bit none_ k = false := by
  unfold bit none_
  rw [List.getD_eq_getElem?_getD]
  by_cases h : k / 64 < 16
  · rw [List.getElem?_replicate_of_lt h, Option.getD_some, Nat.zero_testBit]
  · rw [List.getElem?_eq_none (by rw [List.length_replicate]; omega), Option.getD_none, Nat.zero_testBit]
theorem Ok.get {b : List Nat} (h : Ok b) (i : Nat) : b.getD i 0 < 18446744073709551616 := by
  rw [List.getD_eq_getElem?_getD]
  cases e : b[i]? with
  | none => rw [Option.getD_none]; decide
  | some x => rw [Option.getD_some]; exact h.lt x (List.mem_of_getElem? e)
/-- words are known by their bits -/
theorem ext {a b : List Nat} (ha : Ok a) (hb : Ok b) (h : ∀ k, k < 1024 → bit a k = bit b k) : a = b := by
  refine List.ext_getElem (ha.len.trans hb.len.symm) fun i h1 h2 => ?_
  have l1 : i < 16 := ha.len ▸ h1
  refine Nat.eq_of_testBit_eq fun j => ?_
  by_cases hj : j < 64
  · have := h (64 * i + j) (by omega)
    unfold bit at this
    rw [show (64 * i + j) / 64 = i from by omega, show (64 * i + j) % 64 = j from by omega, List.getD_eq_getElem?_getD, List.getD_eq_getElem?_getD, List.getElem?_eq_getElem h1, List.getElem?_eq_getElem h2, Option.getD_some, Option.getD_some] at this
    exact this
  · have big : (18446744073709551616 : Nat) ≤ 2 ^ j := by
      have := Nat.pow_le_pow_right (n := 2) (by omega) (show 64 ≤ j from by omega)
      exact Nat.le_trans (by decide) this
    rw [Nat.testBit_lt_two_pow (Nat.lt_of_lt_of_le (ha.lt _ (List.getElem_mem h1)) big), Nat.testBit_lt_two_pow (Nat.lt_of_lt_of_le (hb.lt _ (List.getElem_mem h2)) big)]

/-- bit k becomes 1 -/
def put (b : List Nat) (k : Nat) : List Nat := b.set (k / 64) (b.getD (k / 64) 0 ||| 2 ^ (k % 64))
theorem put_ok {b : List Nat} (h : Ok b) (k : Nat) : Ok (put b k) := by
  refine ⟨by unfold put; rw [List.length_set]; exact h.len, fun x hx => ?_⟩
  rcases List.mem_or_eq_of_mem_set hx with e | e
  · exact h.lt x e
  · rw [e]
    exact Nat.or_lt_two_pow (n := 64) (h.get _) (Nat.pow_lt_pow_right (by omega) (Nat.mod_lt _ (by omega)))
theorem put_bit {b : List Nat} (h : Ok b) {k : Nat} (hk : k < 1024) (j : Nat) : bit (put b k) j = (decide (j = k) || bit b j) := by
  unfold bit put
  rw [List.getD_eq_getElem?_getD, List.getElem?_set]
  by_cases e : k / 64 = j / 64
  · rw [if_pos e, if_pos (by rw [h.len]; omega), Option.getD_some, Nat.testBit_or, Nat.testBit_two_pow, e]
    by_cases f : k % 64 = j % 64
    · have : j = k := by omega
      simp [this]
    · have : j ≠ k := fun g => f (by rw [g])
      simp [f, this]
  · have : j ≠ k := fun g => e (by rw [g])
    rw [if_neg e, ← List.getD_eq_getElem?_getD]
    simp [this]
/-- the bits ms become 1 -/
def puts (b : List Nat) (ms : List Nat) : List Nat := ms.foldl put b
theorem puts_ok {ms : List Nat} : ∀ {b : List Nat}, Ok b → Ok (puts b ms) := by
  induction ms with
  | nil => intro b h; exact h
  | cons k ms ih => intro b h; exact ih (put_ok h k)
theorem puts_bit {ms : List Nat} (hm : ∀ k ∈ ms, k < 1024) : ∀ {b : List Nat}, Ok b → ∀ j, bit (puts b ms) j = (decide (j ∈ ms) || bit b j) := by
  induction ms with
  | nil => intro b _ j; simp [puts]
  | cons k ms ih =>
    intro b h j
    show bit (puts (put b k) ms) j = _
    rw [ih (fun q hq => hm q (List.mem_cons_of_mem _ hq)) (put_ok h k) j, put_bit h (hm k List.mem_cons_self) j]
    by_cases e : j = k <;> by_cases f : j ∈ ms <;> simp [e, f, List.mem_cons]
/-- are they all 1? -/
def has (b : List Nat) (ms : List Nat) : Bool := ms.all (bit b)
theorem has_iff {b ms : List Nat} : has b ms = true ↔ ∀ k ∈ ms, bit b k = true := List.all_eq_true
/-- two as one -/
def join (a b : List Nat) : List Nat := List.zipWith (· ||| ·) a b
theorem join_ok {a b : List Nat} (ha : Ok a) (hb : Ok b) : Ok (join a b) := by
  refine ⟨by unfold join; rw [List.length_zipWith, ha.len, hb.len]; rfl, fun x hx => ?_⟩
  unfold join at hx
  obtain ⟨i, hi, e⟩ := List.mem_iff_getElem.mp hx
  rw [List.getElem_zipWith] at e
  rw [← e]
  exact Nat.or_lt_two_pow (n := 64) (ha.lt _ (List.getElem_mem _)) (hb.lt _ (List.getElem_mem _))
theorem join_bit {a b : List Nat} (ha : Ok a) (hb : Ok b) (k : Nat) : bit (join a b) k = (bit a k || bit b k) := by
  unfold bit join
  simp only [List.getD_eq_getElem?_getD, List.getElem?_zipWith]
  by_cases h : k / 64 < 16
  · rw [List.getElem?_eq_getElem (by rw [ha.len]; exact h), List.getElem?_eq_getElem (by rw [hb.len]; exact h)]
    simp only [Option.getD_some, Nat.testBit_or]
  · rw [List.getElem?_eq_none (by rw [ha.len]; omega), List.getElem?_eq_none (by rw [hb.len]; omega)]
    simp only [Option.getD_none, Nat.zero_testBit, Bool.or_self]
theorem join_comm {a b : List Nat} (ha : Ok a) (hb : Ok b) : join a b = join b a :=
  ext (join_ok ha hb) (join_ok hb ha) fun k _ => by rw [join_bit ha hb, join_bit hb ha, Bool.or_comm]
theorem join_assoc {a b c : List Nat} (ha : Ok a) (hb : Ok b) (hc : Ok c) : join (join a b) c = join a (join b c) :=
  ext (join_ok (join_ok ha hb) hc) (join_ok ha (join_ok hb hc)) fun k _ => by rw [join_bit (join_ok ha hb) hc, join_bit ha hb, join_bit ha (join_ok hb hc), join_bit hb hc, Bool.or_assoc]
theorem join_self {a : List Nat} (ha : Ok a) : join a a = a := ext (join_ok ha ha) ha fun k _ => by rw [join_bit ha ha, Bool.or_self]
theorem join_none {a : List Nat} (ha : Ok a) : join none_ a = a := ext (join_ok none_ok ha) ha fun k _ => by rw [join_bit none_ok ha, none_bit, Bool.false_or]
/-- to put in is to join -/
theorem puts_join {a ms : List Nat} (ha : Ok a) (hm : ∀ k ∈ ms, k < 1024) : puts a ms = join a (puts none_ ms) :=
  ext (puts_ok ha) (join_ok ha (puts_ok none_ok)) fun k _ => by rw [puts_bit hm ha, join_bit ha (puts_ok none_ok), puts_bit hm none_ok, none_bit, Bool.or_false, Bool.or_comm]
theorem puts_has {a ms : List Nat} (ha : Ok a) (hm : ∀ k ∈ ms, k < 1024) : has (puts a ms) ms = true :=
  has_iff.mpr fun k hk => by rw [puts_bit hm ha, decide_eq_true hk, Bool.true_or]
/-- what was there stays there -/
theorem puts_more {a ms : List Nat} (ha : Ok a) (hm : ∀ k ∈ ms, k < 1024) {k : Nat} (h : bit a k = true) : bit (puts a ms) k = true := by rw [puts_bit hm ha, h, Bool.or_true]
theorem has_more {a b ms : List Nat} (hb : ∀ k, bit a k = true → bit b k = true) (h : has a ms = true) : has b ms = true := has_iff.mpr fun k hk => hb k (has_iff.mp h k hk)
/-- put in again nothing changes -/
theorem puts_again {a ms : List Nat} (ha : Ok a) (hm : ∀ k ∈ ms, k < 1024) : puts (puts a ms) ms = puts a ms :=
  ext (puts_ok (puts_ok ha)) (puts_ok ha) fun k _ => by rw [puts_bit hm (puts_ok ha), puts_bit hm ha]; cases decide (k ∈ ms) <;> simp
/-- a join with one that has all of it -/
theorem join_sub {a b : List Nat} (ha : Ok a) (hb : Ok b) (h : ∀ k, bit a k = true → bit b k = true) : join a b = b :=
  ext (join_ok ha hb) hb fun k _ => by
    rw [join_bit ha hb]
    cases e : bit a k with
    | false => rw [Bool.false_or]
    | true => rw [h k e, Bool.true_or]

/-- how many bits are 1 -/
def count (b : List Nat) : Nat := (List.range 1024).countP (bit b)
/-- how many bits of a word are 1 -/
def ones (x : Nat) : Nat := (List.range 64).countP (x.testBit ·)
theorem count_none : count none_ = 0 := by
  unfold count
  exact List.countP_eq_zero.mpr fun k _ => by rw [none_bit]; decide
theorem countP_or (p : Nat → Bool) (k : Nat) (l : List Nat) (hl : l.Nodup) : l.countP (fun j => decide (j = k) || p j) ≤ l.countP p + 1 := by
  induction l with
  | nil => simp
  | cons q l ih =>
    obtain ⟨h1, h2⟩ := List.nodup_cons.mp hl
    rw [List.countP_cons, List.countP_cons]
    by_cases e : q = k
    · have : l.countP (fun j => decide (j = k) || p j) = l.countP p := by
        refine List.countP_congr fun j hj => ?_
        have : j ≠ k := fun g => h1 (by rw [e, ← g]; exact hj)
        simp [this]
      rw [this]
      simp only [e, decide_true, Bool.true_or, if_true]
      split <;> omega
    · have := ih h2
      simp only [e, decide_false, Bool.false_or]
      split <;> omega
theorem count_put {b : List Nat} (h : Ok b) {k : Nat} (hk : k < 1024) : count (put b k) ≤ count b + 1 := by
  unfold count
  rw [show bit (put b k) = fun j => decide (j = k) || bit b j from funext fun j => put_bit h hk j]
  exact countP_or (bit b) k _ List.nodup_range
theorem count_puts {ms : List Nat} (hm : ∀ k ∈ ms, k < 1024) : ∀ {b : List Nat}, Ok b → count (puts b ms) ≤ count b + ms.length := by
  induction ms with
  | nil => intro b _; show count b ≤ _; rw [List.length_nil, Nat.add_zero]; exact Nat.le_of_eq rfl
  | cons k ms ih =>
    intro b h
    have h1 := ih (fun q hq => hm q (List.mem_cons_of_mem _ hq)) (put_ok h k)
    have h2 := count_put h (hm k List.mem_cons_self)
    show count (puts (put b k) ms) ≤ _
    rw [List.length_cons]
    omega
theorem count_some {b : List Nat} {k : Nat} (hk : k < 1024) (h : bit b k = true) : 1 ≤ count b := List.countP_pos_iff.mpr ⟨k, List.mem_range.mpr hk, h⟩
/-- word by word -/
theorem count_words (b : List Nat) : ∀ n : Nat, (List.range (64 * n)).countP (bit b) = ((List.range n).map fun i => ones (b.getD i 0)).sum := by
  intro n
  induction n with
  | zero => rfl
  | succ n ih =>
    rw [show List.range (n + 1) = List.range n ++ [n] from List.range_succ, List.map_append, List.sum_append, ← ih, show 64 * (n + 1) = 64 * n + 64 from by omega, List.range_add, List.countP_append, List.countP_map]
    congr 1
    simp only [List.map_cons, List.map_nil, List.sum_cons, List.sum_nil, Nat.add_zero]
    unfold ones
    refine List.countP_congr fun j hj => ?_
    have := List.mem_range.mp hj
    show bit b (64 * n + j) = true ↔ _
    unfold bit
    rw [show (64 * n + j) / 64 = n from by omega, show (64 * n + j) % 64 = j from by omega]
theorem count_ones {b : List Nat} (h : Ok b) : count b = (b.map ones).sum := by
  unfold count
  rw [show (1024 : Nat) = 64 * 16 from rfl, count_words b 16]
  congr 1
  refine List.ext_getElem (by rw [List.length_map, List.length_map, List.length_range, h.len]) fun i h1 h2 => ?_
  rw [List.getElem_map, List.getElem_map, List.getElem_range, List.getD_eq_getElem?_getD, List.getElem?_eq_getElem (by rw [List.length_map] at h2; exact h2), Option.getD_some]
/-- the marks of a digest -/
def marks (id : List UInt8) : List Nat := [0, 1, 2, 3].map fun i => (Nm.val (id.take 4) + i * Nm.val (id.drop 4)) % 1024
theorem marks_lt (id : List UInt8) : ∀ k ∈ marks id, k < 1024 := by
  intro k hk
  obtain ⟨i, _, e⟩ := List.mem_map.mp hk
  rw [← e]
  exact Nat.mod_lt _ (by omega)
end Bm
end Go.Proofs.Ytpagbihebahnnaa
