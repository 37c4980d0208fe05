/-
  Letters and copies (no Go in it): Expand with its errors, Pack and Read.
-/
import Derived.Test.YtgdkfaphbbdnbaaLzMath
import Derived.Lib.Repeat
namespace Go.Proofs.Ytgdkfaphbbdnbaa
namespace Lz

/-- a letter, or a copy -/
def Good (t : Tk) : Prop := (t.len = 0 ∧ t.dist = 0) ∨ (t.lit = 0 ∧ 1 ≤ t.len ∧ t.len ≤ 255 ∧ 1 ≤ t.dist ∧ t.dist ≤ 1024)
theorem Fits.good {s : Bs} {q : Nat} {t : Tk} (h : Fits s q t) : Good t := by
  rcases h with ⟨h1, h2, _⟩ | ⟨h0, h1, h2, h3, h4, _⟩
  · exact .inl ⟨h1, h2⟩
  · exact .inr ⟨h0, h1, h2, h3, h4⟩
theorem Fits.dist {s : Bs} {q : Nat} {t : Tk} (h : Fits s q t) : t.dist ≤ q := by
  rcases h with ⟨_, h2, _⟩ | ⟨_, _, _, _, _, h2, _⟩
  · omega
  · exact h2
theorem Makes.good {s : Bs} {l : List Tk} {q : Nat} (h : Makes s q l) : ∀ t ∈ l, Good t := by
  induction l generalizing q with
  | nil => exact fun t ht => absurd ht (by simp)
  | cons u l ih =>
    intro t ht
    rcases List.mem_cons.1 ht with rfl | ht
    · exact h.1.good
    · exact ih h.2 t ht

/-! ### tokens as they come in -/
structure Tr where
  lit : UInt8
  len : Int
  dist : Int
abbrev Tr.form (t : Tr) : Prop := (t.len = 0 ∧ t.dist = 0) ∨ (t.lit = 0 ∧ 1 ≤ t.len ∧ t.len ≤ 255 ∧ 1 ≤ t.dist ∧ t.dist ≤ 1024)
def Tk.raw (t : Tk) : Tr := ⟨t.lit, t.len, t.dist⟩
theorem Good.form {t : Tk} (h : Good t) : t.raw.form := by
  unfold Tr.form Tk.raw
  rcases h with ⟨h1, h2⟩ | ⟨h0, h1, h2, h3, h4⟩
  · exact .inl ⟨by dsimp only; omega, by dsimp only; omega⟩
  · exact .inr ⟨h0, by dsimp only; omega, by dsimp only; omega, by dsimp only; omega, by dsimp only; omega⟩
theorem Tr.tk {t : Tr} (h : t.form) : ∃ u : Tk, u.raw = t ∧ Good u := by
  obtain ⟨b, n, d⟩ := t
  refine ⟨⟨b, n.toNat, d.toNat⟩, ?_, ?_⟩
  · rcases h with ⟨h1, h2⟩ | ⟨h0, h1, h2, h3, h4⟩ <;> dsimp only at * <;> unfold Tk.raw <;> dsimp only <;> congr <;> omega
  · rcases h with ⟨h1, h2⟩ | ⟨h0, h1, h2, h3, h4⟩ <;> dsimp only at *
    · exact .inl ⟨by dsimp only; omega, by dsimp only; omega⟩
    · exact .inr ⟨h0, by dsimp only; omega, by dsimp only; omega, by dsimp only; omega, by dsimp only; omega⟩
theorem raws {l : List Tr} (h : ∀ t ∈ l, t.form) : ∃ m : List Tk, m.map Tk.raw = l ∧ ∀ t ∈ m, Good t := by
  induction l with
  | nil => exact ⟨[], rfl, fun t ht => absurd ht (by simp)⟩
  | cons t l ih =>
    obtain ⟨m, h1, h2⟩ := ih fun u hu => h u (List.mem_cons_of_mem _ hu)
    obtain ⟨u, h3, h4⟩ := Tr.tk (h t List.mem_cons_self)
    refine ⟨u :: m, by rw [List.map_cons, h3, h1], fun x hx => ?_⟩
    rcases List.mem_cons.1 hx with rfl | hx
    · exact h4
    · exact h2 x hx
/-- P15's Check -/
def chk (l : List Tr) : Nat := if 4096 < l.length then 2 else if ∀ t ∈ l, t.form then 0 else 4

/-! ### a copy's bytes, by repeating what stands there -/
theorem rep_get (l : Bs) (c j : Nat) (h : j < c * l.length) : (Lib.repeatL l c)[j]? = l[j % l.length]? := by
  induction c generalizing j with
  | zero => omega
  | succ c ih =>
    rw [Lib.repeatL]
    by_cases e : j < l.length
    · rw [List.getElem?_append_left e, Nat.mod_eq_of_lt e]
    · rw [Nat.succ_mul] at h
      rw [List.getElem?_append_right (by omega), ih (j - l.length) (by omega), ← Nat.mod_eq_sub_mod (by omega)]
theorem cpy_rep (out : Bs) (d n : Nat) (h1 : 1 ≤ d) (hd : d ≤ out.length) : cpy out d n = out ++ (Lib.repeatL (out.drop (out.length - d)) (n / d + 1)).take n := by
  have hl : (out.drop (out.length - d)).length = d := by rw [List.length_drop]; omega
  have hn : n < (n / d + 1) * d := by
    have h := Nat.div_add_mod n d
    have h2 := Nat.mod_lt n (show d > 0 by omega)
    rw [Nat.succ_mul, Nat.mul_comm]
    omega
  apply List.ext_getElem?
  intro j
  by_cases hj : j < out.length
  · rw [cpy_old _ _ _ _ hj, List.getElem?_append_left hj]
  · by_cases hj2 : j - out.length < n
    · have h := cpy_mod out d h1 hd n (j - out.length) hj2
      rw [show out.length + (j - out.length) = j from by omega] at h
      rw [h, List.getElem?_append_right (by omega), List.getElem?_take_of_lt hj2, rep_get _ _ _ (by rw [hl]; omega), hl, List.getElem?_drop]
    · rw [List.getElem?_eq_none (by rw [cpy_length]; omega), List.getElem?_eq_none]
      rw [List.length_append, List.length_take, Lib.repeatL_length, hl]
      omega

/-! ### Expand, behind Check: 4 where a copy begins too far ahead, 2 where it is too much -/
def ex (most : Nat) : Bs → List Tk → Bs × Nat
  | out, [] => (out, 0)
  | out, t :: l => if out.length < t.dist then ([], 4) else if most < out.length + t.size then ([], 2) else ex most (t.make out) l
theorem make_prefix (t : Tk) (out : Bs) : (t.make out).take out.length = out := by
  apply List.ext_getElem?
  intro j
  by_cases h : j < out.length
  · rw [List.getElem?_take_of_lt h]
    unfold Tk.make
    split
    · rw [List.getElem?_append_left h]
    · exact cpy_old _ _ _ _ h
  · rw [List.getElem?_eq_none (by rw [List.length_take]; omega), List.getElem?_eq_none (by omega)]
theorem ex_makes {most : Nat} {s out : Bs} {l : List Tk} (hg : ∀ t ∈ l, Good t) (h : ex most out l = (s, 0)) (ho : out.length ≤ most) : s.take out.length = out ∧ Makes s out.length l ∧ s.length ≤ most := by
  induction l generalizing out with
  | nil =>
    have e : out = s := congrArg Prod.fst h
    subst e
    exact ⟨List.take_length, rfl, ho⟩
  | cons t l ih =>
    rw [ex] at h
    split at h
    · exact absurd (congrArg Prod.snd h) (by simp)
    rename_i hd
    split at h
    · exact absurd (congrArg Prod.snd h) (by simp)
    rename_i hm
    have hl := make_length t out
    obtain ⟨h1, h2, h3⟩ := ih (fun u hu => hg u (List.mem_cons_of_mem _ hu)) h (by omega)
    rw [hl] at h1 h2
    have hp : s.take out.length = out := by
      have := congrArg (List.take out.length) h1
      rw [make_prefix, List.take_take, Nat.min_eq_left (by omega)] at this
      exact this
    have hs : out.length + t.size ≤ s.length := by
      have := congrArg List.length h1
      rw [List.length_take, hl] at this
      omega
    refine ⟨hp, ⟨?_, h2⟩, h3⟩
    rcases hg t List.mem_cons_self with ⟨e1, e2⟩ | ⟨e0, e1, e2, e3, e4⟩
    · refine .inl ⟨e1, e2, ?_⟩
      have hz : t.size = 1 := by unfold Tk.size; rw [if_pos e1]
      have := congrArg (fun x : Bs => x[out.length]?) h1
      simp only [hz] at this
      rw [List.getElem?_take_of_lt (by omega)] at this
      rw [this]
      unfold Tk.make
      rw [if_pos e1, List.getElem?_append_right (Nat.le_refl _), Nat.sub_self, List.getElem?_cons_zero]
    · have hz : t.size = t.len := by unfold Tk.size; rw [if_neg (by omega)]
      refine .inr ⟨e0, e1, e2, e3, e4, by omega, M.of_cpy e3 (by omega) (by omega) ?_⟩
      rw [hp, ← hz, h1]
      unfold Tk.make
      rw [if_neg (by omega), hz]
theorem makes_ex {most : Nat} {s : Bs} {l : List Tk} {q : Nat} (h : Makes s q l) (hm : s.length ≤ most) : ex most (s.take q) l = (s, 0) := by
  induction l generalizing q with
  | nil =>
    have e : q = s.length := h
    rw [e, List.take_length, ex]
  | cons t l ih =>
    have hs := h.1.size
    have hd := h.1.dist
    have hl : (s.take q).length = q := by rw [List.length_take]; omega
    rw [ex, hl, if_neg (by omega), if_neg (by omega), h.1.make, ih h.2]
theorem makes_ex_less {most : Nat} {s : Bs} {l : List Tk} {q : Nat} (h : Makes s q l) (hm : most < s.length) (hq : q ≤ most) : ex most (s.take q) l = ([], 2) := by
  induction l generalizing q with
  | nil =>
    have e : q = s.length := h
    omega
  | cons t l ih =>
    have hs := h.1.size
    have hd := h.1.dist
    have hl : (s.take q).length = q := by rw [List.length_take]; omega
    rw [ex, hl, if_neg (by omega)]
    split
    · rfl
    · rw [h.1.make, ih h.2 (by omega)]
theorem ex_error {most : Nat} {out : Bs} {l : List Tk} (h : (ex most out l).2 ≠ 0) : (ex most out l).1 = [] := by
  induction l generalizing out with
  | nil => exact absurd rfl h
  | cons t l ih =>
    rw [ex] at h ⊢
    split
    · rfl
    · rename_i h1
      rw [if_neg h1] at h
      split
      · rfl
      · rename_i h2
        rw [if_neg h2] at h
        exact ih h

/-! ### Pack and Read -/
def Tk.text (t : Tk) : Bs := if t.len = 0 then [0, t.lit] else [UInt8.ofNat t.len, UInt8.ofNat (t.dist % 256), UInt8.ofNat (t.dist / 256)]
def pack (l : List Tk) : Bs := (l.map Tk.text).flatten
def rdA : List Tk → Bs → List Tk × Nat
  | out, [] => (out, 0)
  | _, [_] => ([], 3)
  | out, a :: x :: r =>
    if a = 0 then (if out.length = 4096 then ([], 2) else rdA (out ++ [⟨x, 0, 0⟩]) r)
    else match r with
      | [] => ([], 3)
      | y :: r' =>
        if x.toNat + 256 * y.toNat = 0 ∨ 1024 < x.toNat + 256 * y.toNat then ([], 4)
        else if out.length = 4096 then ([], 2) else rdA (out ++ [⟨0, a.toNat, x.toNat + 256 * y.toNat⟩]) r'
theorem rdA_letter (out : List Tk) (x : UInt8) (r : Bs) : rdA out (0 :: x :: r) = if out.length = 4096 then ([], 2) else rdA (out ++ [⟨x, 0, 0⟩]) r := by
  cases r with
  | nil =>
    show (if (0 : UInt8) = 0 then (if out.length = 4096 then ([], 2) else rdA (out ++ [⟨x, 0, 0⟩]) []) else ([], 3)) = _
    rw [if_pos rfl]
  | cons y r => rw [rdA, if_pos rfl]
theorem rdA_short (out : List Tk) (a x : UInt8) (ha : ¬ a = 0) : rdA out [a, x] = ([], 3) := by rw [rdA, if_neg ha]
theorem rdA_copy (out : List Tk) (a x y : UInt8) (r : Bs) (ha : ¬ a = 0) : rdA out (a :: x :: y :: r) =
    if x.toNat + 256 * y.toNat = 0 ∨ 1024 < x.toNat + 256 * y.toNat then ([], 4)
    else if out.length = 4096 then ([], 2) else rdA (out ++ [⟨0, a.toNat, x.toNat + 256 * y.toNat⟩]) r := by rw [rdA, if_neg ha]
theorem read_pack (l out : List Tk) (hg : ∀ t ∈ l, Good t) (hl : out.length + l.length ≤ 4096) : rdA out (pack l) = (out ++ l, 0) := by
  induction l generalizing out with
  | nil => rw [List.append_nil]; rfl
  | cons t l ih =>
    rw [List.length_cons] at hl
    have ih' := ih (out ++ [t]) (fun u hu => hg u (List.mem_cons_of_mem _ hu)) (by rw [List.length_append, List.length_singleton]; omega)
    rw [List.append_assoc, List.singleton_append] at ih'
    obtain ⟨b, n, d⟩ := t
    show rdA out (Tk.text ⟨b, n, d⟩ ++ pack l) = _
    rcases hg _ List.mem_cons_self with ⟨e1, e2⟩ | ⟨e0, e1, e2, e3, e4⟩
    · have e1 : n = 0 := e1
      have e2 : d = 0 := e2
      subst e1 e2
      unfold Tk.text
      rw [if_pos rfl]
      show rdA out (0 :: b :: pack l) = _
      rw [rdA_letter, if_neg (by omega)]
      exact ih'
    · have e0 : b = 0 := e0
      have e1 : 1 ≤ n := e1
      have e2 : n ≤ 255 := e2
      have e3 : 1 ≤ d := e3
      have e4 : d ≤ 1024 := e4
      subst e0
      have hn : (UInt8.ofNat n).toNat = n := by simp; omega
      have hx : (UInt8.ofNat (d % 256)).toNat = d % 256 := by simp
      have hy : (UInt8.ofNat (d / 256)).toNat = d / 256 := by simp; omega
      have hz : ¬ UInt8.ofNat n = 0 := by
        intro e
        have := congrArg UInt8.toNat e
        rw [hn] at this
        simp at this
        omega
      unfold Tk.text
      rw [if_neg (by show ¬ n = 0; omega)]
      show rdA out (UInt8.ofNat n :: UInt8.ofNat (d % 256) :: UInt8.ofNat (d / 256) :: pack l) = _
      rw [rdA_copy _ _ _ _ _ hz]
      simp only [hn, hx, hy]
      rw [show d % 256 + 256 * (d / 256) = d from by omega, if_neg (by omega), if_neg (by omega)]
      exact ih'
theorem pack_read (k : Nat) (s : Bs) (hk : s.length ≤ k) (out l : List Tk) (h : rdA out s = (l, 0)) (ho : out.length ≤ 4096) : ∃ m, l = out ++ m ∧ pack m = s ∧ (∀ t ∈ m, Good t) ∧ l.length ≤ 4096 := by
  induction k generalizing s out with
  | zero =>
    obtain rfl : s = [] := List.length_eq_zero_iff.1 (by omega)
    have e : out = l := congrArg Prod.fst h
    exact ⟨[], by rw [List.append_nil, e], rfl, fun t ht => absurd ht (by simp), by rw [← e]; exact ho⟩
  | succ k ih =>
    match s, hk, h with
    | [], _, h =>
      have e : out = l := congrArg Prod.fst h
      exact ⟨[], by rw [List.append_nil, e], rfl, fun t ht => absurd ht (by simp), by rw [← e]; exact ho⟩
    | [_], _, h => exact absurd (congrArg Prod.snd h) (by simp [rdA])
    | a :: x :: r, hk, h =>
      simp only [List.length_cons] at hk
      by_cases ha : a = 0
      · rw [ha, rdA_letter] at h
        split at h
        · exact absurd (congrArg Prod.snd h) (by simp)
        · rename_i h4
          obtain ⟨m, h1, h2, h3, h5⟩ := ih r (by omega) (out ++ [⟨x, 0, 0⟩]) h (by rw [List.length_append, List.length_singleton]; omega)
          refine ⟨⟨x, 0, 0⟩ :: m, by rw [h1, List.append_assoc, List.singleton_append], ?_, ?_, h5⟩
          · show Tk.text ⟨x, 0, 0⟩ ++ pack m = _
            rw [h2, ha]; rfl
          · intro t ht
            rcases List.mem_cons.1 ht with rfl | ht
            · exact .inl ⟨rfl, rfl⟩
            · exact h3 t ht
      · match r, hk, h with
        | [], _, h =>
          rw [rdA_short _ _ _ ha] at h
          exact absurd (congrArg Prod.snd h) (by simp)
        | y :: r', hk, h =>
          simp only [List.length_cons] at hk
          rw [rdA_copy _ _ _ _ _ ha] at h
          split at h
          · exact absurd (congrArg Prod.snd h) (by simp)
          rename_i hd
          split at h
          · exact absurd (congrArg Prod.snd h) (by simp)
          rename_i h4
          have hx := x.toNat_lt
          have hy := y.toNat_lt
          have hn := a.toNat_lt
          have hz : a.toNat ≠ 0 := fun e => ha (UInt8.toNat_inj.1 e)
          obtain ⟨m, h1, h2, h3, h5⟩ := ih r' (by omega) (out ++ [⟨0, a.toNat, x.toNat + 256 * y.toNat⟩]) h (by rw [List.length_append, List.length_singleton]; omega)
          refine ⟨⟨0, a.toNat, x.toNat + 256 * y.toNat⟩ :: m, by rw [h1, List.append_assoc, List.singleton_append], ?_, ?_, h5⟩
          · show Tk.text ⟨0, a.toNat, x.toNat + 256 * y.toNat⟩ ++ pack m = _
            unfold Tk.text
            dsimp only
            rw [if_neg hz, h2, show (x.toNat + 256 * y.toNat) % 256 = x.toNat from by omega, show (x.toNat + 256 * y.toNat) / 256 = y.toNat from by omega, UInt8.ofNat_toNat, UInt8.ofNat_toNat, UInt8.ofNat_toNat]
            rfl
          · intro t ht
            rcases List.mem_cons.1 ht with rfl | ht
            · exact .inr ⟨rfl, by show 1 ≤ a.toNat; omega, by show a.toNat ≤ 255; omega, by show 1 ≤ x.toNat + 256 * y.toNat; omega, by show x.toNat + 256 * y.toNat ≤ 1024; omega⟩
            · exact h3 t ht
end Lz
end Go.Proofs.Ytgdkfaphbbdnbaa
