/-
  P21, P22 (no Go in it): the two forms, what Open says of whatever stands there, and that the coded form is opened as it was.
-/
import Derived.Test.YtgdkfaphbbdnbaaPrMath2
import Derived.Test.YtgdkfaphbbdnbaaHfFull
import Derived.Test.YtgdkfaphbbdnbaaMathBack
import Derived.Test.YtgdkfaphbbdnbaaLzMath2
namespace Go.Proofs.Ytgdkfaphbbdnbaa
namespace Pr

abbrev Bs := List UInt8
/-- how often each of the 256 bytes is there -/
def tally (T : Bs) : List Nat := (List.range 256).map fun i => T.countP fun b => b.toNat == i
theorem tally_length (T : Bs) : (tally T).length = 256 := by simp [tally]
theorem tally_get (T : Bs) {i : Nat} (h : i < 256) : (tally T).getD i 0 = T.countP fun b => b.toNat == i := by
  rw [List.getD_eq_getElem?_getD, tally, List.getElem?_map, List.getElem?_range h]
  rfl
theorem tally_le (T : Bs) : ∀ n ∈ tally T, n ≤ T.length := by
  intro n hn
  obtain ⟨i, _, rfl⟩ := List.mem_map.1 hn
  exact List.countP_le_length
theorem tally_there {T : Bs} {b : UInt8} (h : b ∈ T) : 0 < (tally T).getD b.toNat 0 := by
  rw [tally_get T b.toNat_lt]
  exact List.countP_pos_iff.2 ⟨b, h, by simp⟩
theorem tally_snoc (T : Bs) (b : UInt8) : tally (T ++ [b]) = (tally T).set b.toNat ((tally T).getD b.toNat 0 + 1) := by
  have hb : b.toNat < 256 := b.toNat_lt
  refine List.ext_getElem? fun i => ?_
  rw [tally_get T hb, List.getElem?_set, tally_length]
  unfold tally
  by_cases hi : i < 256
  · rw [List.getElem?_map, List.getElem?_range hi, List.getElem?_map, List.getElem?_range hi]
    simp only [Option.map_some, List.countP_append, List.countP_singleton]
    by_cases e : b.toNat = i
    · subst e
      simp [hb]
    · have : (b.toNat == i) = false := by simpa using e
      simp [this, e]
  · rw [List.getElem?_eq_none (by simp; omega), List.getElem?_eq_none (by simp; omega), if_neg (by omega)]
/-- the bytes that are there, each with its length -/
def headFrom (l : List Nat) (k : Nat) : Nat → Bs
  | 0 => []
  | n + 1 => if 0 < l.getD k 0 then UInt8.ofNat k :: UInt8.ofNat (l.getD k 0) :: headFrom l (k + 1) n else headFrom l (k + 1) n
def manyFrom (l : List Nat) (k : Nat) : Nat → Nat
  | 0 => 0
  | n + 1 => if 0 < l.getD k 0 then manyFrom l (k + 1) n + 1 else manyFrom l (k + 1) n
theorem many_le (l : List Nat) (k n : Nat) : manyFrom l k n ≤ n := by
  induction n generalizing k with
  | zero => exact Nat.le_refl _
  | succ n ih =>
    rw [manyFrom]
    have := ih (k + 1)
    split <;> omega
theorem head_length (l : List Nat) (k n : Nat) : (headFrom l k n).length = 2 * manyFrom l k n := by
  induction n generalizing k with
  | zero => rfl
  | succ n ih =>
    rw [manyFrom, headFrom]
    split
    · rw [List.length_cons, List.length_cons, ih]; omega
    · exact ih _
/-- so many bytes with their lengths, rising; 3 and 4 where they are not -/
def pairs : Nat → Int → List Nat → Bs → List Nat × Bs × Int
  | 0, _, wide, s => (wide, s, 0)
  | n + 1, p, wide, a :: b :: s => if (a.toNat : Int) ≤ p ∨ b.toNat = 0 ∨ 48 < b.toNat then ([], [], 4) else pairs n a.toNat (wide.set a.toNat b.toNat) s
  | _ + 1, _, _, _ => ([], [], 3)
theorem pairs_head {l : List Nat} (h48 : ∀ i, l.getD i 0 ≤ 48) (hl : l.length = 256) (r : Bs) (n k : Nat) (hk : k + n = 256) (p : Int) (hp : p < k) :
    pairs (manyFrom l k n) p (l.take k ++ List.replicate n 0) (headFrom l k n ++ r) = (l, r, 0) := by
  induction n generalizing k p with
  | zero =>
    obtain rfl : k = 256 := by omega
    rw [manyFrom, headFrom, pairs, ← hl, List.take_length, List.replicate_zero, List.append_nil]
    rfl
  | succ n ih =>
    have hkl : k < l.length := by omega
    have ht : l.take (k + 1) = l.take k ++ [l.getD k 0] := by
      rw [List.take_add_one, List.getD_eq_getElem?_getD, List.getElem?_eq_getElem hkl]
      rfl
    have h8 := h48 k
    rw [manyFrom, headFrom]
    split
    · rename_i h0
      have e1 : (UInt8.ofNat k).toNat = k := by rw [UInt8.toNat_ofNat']; omega
      have e2 : (UInt8.ofNat (l.getD k 0)).toNat = l.getD k 0 := by rw [UInt8.toNat_ofNat']; omega
      rw [List.cons_append, List.cons_append, pairs, e1, e2, if_neg (by omega)]
      have hlt : (l.take k).length = k := by rw [List.length_take]; omega
      rw [List.set_append_right k _ (by rw [hlt]; exact Nat.le_refl _), hlt, Nat.sub_self, List.replicate_succ, List.set_cons_zero]
      have := ih (k + 1) (by omega) k (by omega)
      rw [ht, List.append_assoc] at this
      exact this
    · rename_i h0
      have := ih (k + 1) (by omega) p (by omega)
      rw [ht, show l.getD k 0 = 0 by omega, List.append_assoc] at this
      exact this
/-- numbers, each up to its most -/
def nums : List Nat → Bs → List Nat × Bs × Int
  | [], s => ([], s, 0)
  | m :: ms, s => if (Nm.getN s).2.2 ≠ 0 then ([], [], (Nm.getN s).2.2) else if m < (Nm.getN s).1 then ([], [], 2) else
    if (nums ms (s.drop (Nm.getN s).2.1)).2.2 ≠ 0 then ([], [], (nums ms (s.drop (Nm.getN s).2.1)).2.2) else
    ((Nm.getN s).1 :: (nums ms (s.drop (Nm.getN s).2.1)).1, (nums ms (s.drop (Nm.getN s).2.1)).2.1, 0)
theorem nums_put {m n : Nat} {ms ns : List Nat} {s r : Bs} (h : n ≤ m) (hm : n < 256 ^ 8) (hr : nums ms s = (ns, r, 0)) : nums (m :: ms) (Nm.put n ++ s) = (n :: ns, r, 0) := by
  rw [nums, Nm.get_put n s hm, if_neg (by simp), if_neg (by show ¬ m < n; omega)]
  simp only [List.drop_left, hr, ne_eq, not_true_eq_false, if_false]
def upB (t : List Nat) : Bs := t.map UInt8.ofNat
def dnB (t : Bs) : List Nat := t.map UInt8.toNat
theorem up_dn (t : Bs) : upB (dnB t) = t := by
  simp [upB, dnB, Function.comp_def]
theorem dn_up {t : List Nat} (h : ∀ n ∈ t, n < 256) : dnB (upB t) = t := by
  induction t with
  | nil => rfl
  | cons n t ih =>
    have := h n List.mem_cons_self
    show (UInt8.ofNat n).toNat :: dnB (upB t) = _
    rw [ih fun m hm => h m (List.mem_cons_of_mem _ hm), UInt8.toNat_ofNat', Nat.mod_eq_of_lt this]
/-- behind the tokens' text T: how many bytes there must be -/
def opT (n : Nat) (T : Bs) : Bs × Int :=
  if (Lz.rdA [] T).2 ≠ 0 then ([], (Lz.rdA [] T).2) else
  if (Lz.ex n [] (Lz.rdA [] T).1).2 ≠ 0 then ([], (Lz.ex n [] (Lz.rdA [] T).1).2) else
  if (Lz.ex n [] (Lz.rdA [] T).1).1.length < n then ([], 4) else ((Lz.ex n [] (Lz.rdA [] T).1).1, 0)
/-- behind the lengths -/
def opS (n m : Nat) (wide : List Nat) (s : Bs) : Bs × Int :=
  if 2 ^ 48 < Hf.ksum wide then ([], 4) else
  match signs wide m (bitsB (dnB s)) with
  | .inl true => ([], 4)
  | .inl false => ([], 3)
  | .inr (t, r) => if clean r then opT n (upB t) else ([], 4)
/-- behind a byte 1 -/
def opC (s : Bs) : Bs × Int :=
  if (nums [4096, 12288, 256] s).2.2 ≠ 0 then ([], (nums [4096, 12288, 256] s).2.2) else
  let n := (nums [4096, 12288, 256] s).1
  let p := pairs (n.getD 2 0) (-1) (List.replicate 256 0) (nums [4096, 12288, 256] s).2.1
  if p.2.2 ≠ 0 then ([], p.2.2) else opS (n.getD 0 0) (n.getD 1 0) p.1 p.2.1
def op : Bs → Bs × Int
  | [] => ([], 3)
  | a :: s => if a = 0 then (if 4096 < s.length then ([], 2) else (s, 0)) else if a = 1 then opC s else ([], 5)
theorem op_zero (s : Bs) : op (0 :: s) = if 4096 < s.length then ([], 2) else (s, 0) := rfl
theorem op_one (s : Bs) : op (1 :: s) = opC s := rfl
/-- the coded form, with the lengths -/
def T (s : Bs) : Bs := Lz.pack (Lz.greedy s)
def cod (s : Bs) (wide : List Nat) : Bs :=
  1 :: (Nm.put s.length ++ (Nm.put (T s).length ++ (Nm.put (manyFrom wide 0 256) ++ (headFrom wide 0 256 ++ upB (bytes (words wide (dnB (T s))))))))
def pr (s : Bs) (wide : List Nat) : Bs × Int := if 4096 < s.length then ([], 2) else if (cod s wide).length ≤ s.length then (cod s wide, 0) else (0 :: s, 0)
theorem pack_le (l : List Lz.Tk) : (Lz.pack l).length ≤ 3 * l.length := by
  induction l with
  | nil => exact Nat.le_refl _
  | cons t l ih =>
    have e : Lz.pack (t :: l) = t.text ++ Lz.pack l := by simp [Lz.pack]
    have : t.text.length ≤ 3 := by unfold Lz.Tk.text; split <;> simp
    rw [e, List.length_append, List.length_cons]
    omega
theorem T_le (s : Bs) : (T s).length ≤ 3 * s.length := by
  have h1 := pack_le (Lz.greedy s)
  have h2 := Lz.makes_length s _ 0 (Lz.makes_greedy s)
  unfold T
  omega
theorem opT_T {s : Bs} (h : s.length ≤ 4096) : opT s.length (T s) = (s, 0) := by
  have hm := Lz.makes_greedy s
  have hl := Lz.makes_length s _ 0 hm
  have e1 : Lz.rdA [] (T s) = (Lz.greedy s, 0) := by
    have := Lz.read_pack (Lz.greedy s) [] hm.good (by simp only [List.length_nil]; omega)
    simpa [T] using this
  have e2 : Lz.ex s.length [] (Lz.greedy s) = (s, 0) := by
    have := Lz.makes_ex (most := s.length) hm (Nat.le_refl _)
    simpa using this
  unfold opT
  rw [e1]
  simp only [e2, ne_eq, not_true_eq_false, if_false, Nat.lt_irrefl]
/-- the lengths of P19 for T have codes, and all that is in T has one -/
theorem good_of {F wide : List Nat} (h : Hf.HL F wide) (h2 : F.length ≤ 256) (h3 : ∀ n ∈ F, n ≤ 1048576) : Good wide := by
  refine ⟨Hf.getD_le (h.le48 h2 h3), ?_⟩
  rw [h.ksum h2 h3]
  split
  · exact Nat.zero_le _
  · split <;> decide
theorem opS_words {s : Bs} {wide : List Nat} (hs : s.length ≤ 4096) (h : Hf.HL (tally (T s)) wide) : opS s.length (T s).length wide (upB (bytes (words wide (dnB (T s))))) = (s, 0) := by
  have hT := T_le s
  have h3 : ∀ n ∈ tally (T s), n ≤ 1048576 := fun n hn => by have := tally_le _ n hn; omega
  have h2 : (tally (T s)).length ≤ 256 := by rw [tally_length]; exact Nat.le_refl _
  have g := good_of h h2 h3
  have hl : wide.length = 256 := by rw [h.len, tally_length]
  have hw : ∀ i ∈ dnB (T s), i < wide.length ∧ 0 < wide.getD i 0 := by
    intro i hi
    obtain ⟨b, hb, rfl⟩ := List.mem_map.1 hi
    exact ⟨by rw [hl]; exact b.toNat_lt, (h.there h2 h3 _).1 (tally_there hb)⟩
  have key := signs_bytes g hw
  rw [show (dnB (T s)).length = (T s).length by simp [dnB]] at key
  unfold opS
  rw [if_neg (by have := g.sum; omega), dn_up (bytes_lt _), key]
  simp only [clean_zs, if_true, up_dn]
  exact opT_T hs
theorem op_cod {s : Bs} {wide : List Nat} (hs : s.length ≤ 4096) (h : Hf.HL (tally (T s)) wide) : op (cod s wide) = (s, 0) := by
  have hT := T_le s
  have h3 : ∀ n ∈ tally (T s), n ≤ 1048576 := fun n hn => by have := tally_le _ n hn; omega
  have h2 : (tally (T s)).length ≤ 256 := by rw [tally_length]; exact Nat.le_refl _
  have g := good_of h h2 h3
  have hl : wide.length = 256 := by rw [h.len, tally_length]
  have hm := many_le wide 0 256
  have e := nums_put (m := 4096) (n := s.length) (s := _) hs (by omega) (nums_put (m := 12288) (n := (T s).length) (by omega) (by omega)
    (nums_put (m := 256) (n := manyFrom wide 0 256) hm (by omega) (show nums [] (headFrom wide 0 256 ++ upB (bytes (words wide (dnB (T s))))) = ([], _, 0) from rfl)))
  have hp := pairs_head g.le hl (upB (bytes (words wide (dnB (T s))))) 256 0 rfl (-1) (by omega)
  rw [List.take_zero, List.nil_append] at hp
  unfold cod
  rw [op_one]
  unfold opC
  rw [e]
  simp only [ne_eq, not_true_eq_false, if_false, List.getD_cons_zero, List.getD_cons_succ]
  rw [hp]
  simp only [not_true_eq_false, if_false]
  exact opS_words hs h
/-- what is pressed is opened as it was, and has at most one byte more -/
theorem op_pr {s : Bs} {wide : List Nat} (hs : s.length ≤ 4096) (h : Hf.HL (tally (T s)) wide) : (pr s wide).2 = 0 ∧ op (pr s wide).1 = (s, 0) ∧ (pr s wide).1.length ≤ 1 + s.length := by
  unfold pr
  rw [if_neg (by omega)]
  split
  · exact ⟨rfl, op_cod hs h, by show (cod s wide).length ≤ _; omega⟩
  · refine ⟨rfl, ?_, by show (0 :: s).length ≤ _; rw [List.length_cons]; omega⟩
    show op (0 :: s) = _
    rw [op_zero, if_neg (by omega)]
end Pr
end Go.Proofs.Ytgdkfaphbbdnbaa
