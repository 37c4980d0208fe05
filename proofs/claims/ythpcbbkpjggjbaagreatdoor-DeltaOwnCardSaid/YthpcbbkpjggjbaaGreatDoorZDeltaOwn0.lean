/-
  What DeltaOwn leans on, part 0.
-/
import Derived.WalkKit
import Derived.Laws.BitsAllLaws
import Derived.Lib.Strings
import Derived.Test.YthpcbbkpjggjbaaGreatDoorProg
import Derived.WalkSpells
import Derived.WalkLawsBesides
import Derived.Below
import Derived.Lib.DecodeN
import Derived.Lib.TrimUEq
import Derived.Lib.MapLaws
import Derived.Lib.LastIndexByte
import Derived.Lib.Bytealg
import Derived.Lib.ValidU
import Derived.Lib.ValidLaws
import Derived.Laws.RangeAny
import Derived.Shelf.Unicode.DecodeSlow
import Derived.Shelf.Unicode.ValidAny
import Derived.Lib.Split
import Derived.Shelf.Strings.Search2
import Derived.Shelf.Strings.Search3
import Derived.Deep.LoopGhost
import Derived.Deep.OwnRows
import Derived.Shelf.Strings.Prefix
import Derived.Shelf.Strconv.Clone
import Derived.Deep.RegionWith
import Derived.BigQuiet
import Derived.OrdersIn
import Derived.ControlIn
import Derived.RegionTactic
import Derived.Deep.MidRow

namespace Go.Proofs.YthpcbbkpjggjbaaGreatDoor
namespace Nm
def digF : Nat → Nat → List UInt8
  | 0, _ => []
  | f + 1, n => if n = 0 then [] else digF f (n / 256) ++ [UInt8.ofNat (n % 256)]
def dig (n : Nat) : List UInt8 := digF 8 n
def val (l : List UInt8) : Nat := l.foldl (fun a b => 256 * a + b.toNat) 0
def low : Nat → Nat → List UInt8
  | 0, _ => []
  | k + 1, n => UInt8.ofNat (n / 256 ^ k % 256) :: low k n
def tn (t : Nat) (l : List UInt8) : List UInt8 := l.map (fun b => b ^^^ UInt8.ofNat t)
theorem val_nil : val [] = 0 := rfl
theorem val_snoc (l : List UInt8) (b : UInt8) : val (l ++ [b]) = 256 * val l + b.toNat := by simp [val, List.foldl_append]
theorem val_from (l : List UInt8) : ∀ a, l.foldl (fun a b => 256 * a + b.toNat) a = a * 256 ^ l.length + val l := by
  induction l with
  | nil => intro a; simp [val]
  | cons b l ih =>
    intro a
    have h := ih (256 * 0 + b.toNat)
    show List.foldl (fun a b => 256 * a + b.toNat) (256 * a + b.toNat) l = a * 256 ^ (l.length + 1) + List.foldl (fun a b => 256 * a + b.toNat) (256 * 0 + b.toNat) l
    rw [ih, h, Nat.pow_succ, Nat.add_mul, Nat.mul_zero, Nat.zero_add]
    rw [show 256 * a * 256 ^ l.length = a * (256 ^ l.length * 256) from by rw [Nat.mul_comm 256 a, Nat.mul_assoc, Nat.mul_comm 256]]
    omega
theorem val_cons (b : UInt8) (l : List UInt8) : val (b :: l) = b.toNat * 256 ^ l.length + val l := by
  have h := val_from l (256 * 0 + b.toNat)
  simp only [val, List.foldl_cons] at h ⊢
  rw [h]; simp
theorem val_lt (l : List UInt8) : val l < 256 ^ l.length := by
  induction l with
  | nil => simp [val]
  | cons b l ih =>
    rw [val_cons, List.length_cons, Nat.pow_succ]
    have hb := b.toNat_lt
    have : b.toNat * 256 ^ l.length ≤ 255 * 256 ^ l.length := Nat.mul_le_mul_right _ (by omega)
    omega
theorem tn_length (t : Nat) (l : List UInt8) : (tn t l).length = l.length := by simp [tn]
theorem tn_zero (l : List UInt8) : tn 0 l = l := by simp [tn]
theorem tn_append (t : Nat) (l m : List UInt8) : tn t (l ++ m) = tn t l ++ tn t m := by simp [tn]
theorem tn_tn (t : Nat) (l : List UInt8) : tn t (tn t l) = l := by
  simp only [tn, List.map_map]
  have : (fun b : UInt8 => b ^^^ UInt8.ofNat t) ∘ (fun b => b ^^^ UInt8.ofNat t) = id := by
    funext b; simp [UInt8.xor_assoc]
  rw [this, List.map_id]
theorem low_length (k n : Nat) : (low k n).length = k := by
  induction k with
  | zero => rfl
  | succ k ih => simp [low, ih]
theorem low_mod (k n m : Nat) (h : k ≤ m) : low k (n % 256 ^ m) = low k n := by
  induction k with
  | zero => rfl
  | succ k ih =>
    rw [low, low, ih (by omega)]
    congr 2
    obtain ⟨d, rfl⟩ : ∃ d, m = (k + 1) + d := ⟨m - (k + 1), by omega⟩
    rw [← Nat.mod_mul_right_div_self, ← Nat.mod_mul_right_div_self (m := n)]
    rw [← Nat.pow_succ, Nat.mod_mod_of_dvd]
    exact Nat.pow_dvd_pow 256 (by omega)
theorem val_low (k n : Nat) : val (low k n) = n % 256 ^ k := by
  induction k with
  | zero => simp [low, val, Nat.mod_one]
  | succ k ih =>
    rw [low, val_cons, low_length, ih, Nat.pow_succ]
    have : (UInt8.ofNat (n / 256 ^ k % 256)).toNat = n / 256 ^ k % 256 := by
      rw [UInt8.toNat_ofNat']; omega
    rw [this, Nat.mod_mul, Nat.mul_comm]
    omega
theorem low_val (l : List UInt8) : low l.length (val l) = l := by
  induction l with
  | nil => rfl
  | cons b l ih =>
    have hl := val_lt l
    have hp : 0 < 256 ^ l.length := Nat.pow_pos (by omega)
    rw [val_cons, List.length_cons, low]
    have e1 : (b.toNat * 256 ^ l.length + val l) / 256 ^ l.length = b.toNat := by
      rw [Nat.add_comm, Nat.add_mul_div_right _ _ hp, Nat.div_eq_of_lt hl]; omega
    have e2 : low l.length (b.toNat * 256 ^ l.length + val l) = l := by
      rw [← low_mod _ _ l.length (Nat.le_refl _), Nat.mul_add_mod_self_right, Nat.mod_eq_of_lt hl, ih]
    rw [e1, e2]
    have hb := b.toNat_lt
    rw [Nat.mod_eq_of_lt (by omega)]
    simp
theorem low_snoc (k n : Nat) : low (k + 1) n = low k (n / 256) ++ [UInt8.ofNat (n % 256)] := by
  induction k with
  | zero => simp [low]
  | succ k ih =>
    rw [low, ih, low, List.cons_append]
    congr 2
    rw [Nat.div_div_eq_div_mul, Nat.pow_succ, Nat.mul_comm]
theorem digF_length_le (f n : Nat) : (digF f n).length ≤ f := by
  induction f generalizing n with
  | zero => simp [digF]
  | succ f ih =>
    rw [digF]; split
    · simp
    · have := ih (n / 256); simp; omega
theorem digF_low (f n : Nat) : digF f n = low (digF f n).length n := by
  induction f generalizing n with
  | zero => rfl
  | succ f ih =>
    rw [digF]; split
    · rfl
    · rw [List.length_append, List.length_singleton, low_snoc, ← ih]
theorem dig_length_le (n : Nat) : (dig n).length ≤ 8 := digF_length_le 8 n
theorem dig_low (n : Nat) : low (dig n).length n = dig n := (digF_low 8 n).symm
theorem digF_lt (f n : Nat) (h : n < 256 ^ f) : n < 256 ^ (digF f n).length := by
  induction f generalizing n with
  | zero => simpa [digF] using h
  | succ f ih =>
    rw [digF]; split
    · subst_vars; simp
    · rw [List.length_append, List.length_singleton, Nat.pow_succ]
      have := ih (n / 256) (by rw [Nat.pow_succ] at h; omega)
      omega
theorem dig_lt (n : Nat) (h : n < 256 ^ 8) : n < 256 ^ (dig n).length := digF_lt 8 n h
theorem val_dig (n : Nat) (h : n < 256 ^ 8) : val (dig n) = n := by
  rw [← dig_low, val_low, Nat.mod_eq_of_lt (dig_lt n h)]
theorem digF_ge (f n : Nat) (hn : n ≠ 0) (hf : f ≠ 0) : 256 ^ ((digF f n).length - 1) ≤ n ∧ (digF f n).length ≠ 0 := by
  induction f generalizing n with
  | zero => exact absurd rfl hf
  | succ f ih =>
    rw [digF, if_neg hn, List.length_append, List.length_singleton, Nat.add_sub_cancel]
    refine ⟨?_, by omega⟩
    by_cases hf0 : f = 0
    · subst hf0; simp [digF]; omega
    · by_cases h0 : n / 256 = 0
      · rw [h0]
        have : digF f 0 = [] := by cases f <;> simp [digF]
        rw [this]; simp; omega
      · have ⟨h1, h2⟩ := ih (n / 256) h0 hf0
        obtain ⟨m, hm⟩ : ∃ m, (digF f (n / 256)).length = m + 1 := ⟨_, (Nat.succ_pred_eq_of_ne_zero h2).symm⟩
        rw [hm, Nat.add_sub_cancel] at h1
        rw [hm, Nat.pow_succ]; omega
theorem dig_ge (n : Nat) (hn : n ≠ 0) : 256 ^ ((dig n).length - 1) ≤ n ∧ (dig n).length ≠ 0 := digF_ge 8 n hn (by omega)
theorem dig_unique (k n : Nat) (h8 : k ≤ 8) (h1 : n < 256 ^ k) (h2 : k = 0 ∨ 256 ^ (k - 1) ≤ n) : (dig n).length = k := by
  by_cases hn : n = 0
  · subst hn
    rcases h2 with rfl | h2
    · rfl
    · have : 0 < 256 ^ (k - 1) := Nat.pow_pos (by omega)
      omega
  · have ⟨g1, g2⟩ := dig_ge n hn
    have g3 := dig_lt n (Nat.lt_of_lt_of_le h1 (Nat.pow_le_pow_right (by omega) h8))
    have a1 : (dig n).length - 1 < k := (Nat.pow_lt_pow_iff_right (a := 256) (by omega)).1 (Nat.lt_of_le_of_lt g1 h1)
    rcases h2 with rfl | h2
    · simp at h1; omega
    · have a2 : k - 1 < (dig n).length := (Nat.pow_lt_pow_iff_right (a := 256) (by omega)).1 (Nat.lt_of_le_of_lt h2 g3)
      omega
theorem dig_val (l : List UInt8) (h8 : l.length ≤ 8) (h : l = [] ∨ l.headD 0 ≠ 0) : dig (val l) = l := by
  have hk : (dig (val l)).length = l.length := by
    refine dig_unique _ _ h8 (val_lt l) ?_
    rcases h with rfl | h
    · exact .inl rfl
    · cases l with
      | nil => exact .inl rfl
      | cons b l =>
        right
        simp at h
        have hb : b.toNat ≠ 0 := by
          intro e; exact h (UInt8.toNat_inj.1 (by simpa using e))
        rw [val_cons, List.length_cons, Nat.add_sub_cancel]
        have : 1 * 256 ^ l.length ≤ b.toNat * 256 ^ l.length := Nat.mul_le_mul_right _ (by omega)
        omega
  rw [← dig_low, hk, low_val]
theorem dig_head (n : Nat) (hn : n ≠ 0) (h : n < 256 ^ 8) : (dig n).headD 0 ≠ 0 := by
  have ⟨g1, g2⟩ := dig_ge n hn
  intro e
  cases hd : dig n with
  | nil => simp [hd] at g2
  | cons b l =>
    rw [hd] at e g1
    simp at e g1
    have hv := val_dig n h
    rw [hd, val_cons, e] at hv
    have := val_lt l
    simp at hv
    omega
def put (n : Nat) : List UInt8 := UInt8.ofNat (dig n).length :: dig n
theorem put_length (n : Nat) : (put n).length ≤ 9 := by have := dig_length_le n; simp [put]; omega
def readN (l : List UInt8) (k t : Nat) : Nat × Int :=
  if 8 < k then (0, 4) else if l.length < k then (0, 3) else if 0 < k ∧ l.headD 0 ^^^ UInt8.ofNat t = 0 then (0, 4) else (val (tn t (l.take k)), 0)
def getN (l : List UInt8) : Nat × Nat × Int :=
  if l = [] then (0, 0, 3) else
    let r := readN l.tail (l.headD 0).toNat 0
    if r.2 = 0 then (r.1, 1 + (l.headD 0).toNat, 0) else (0, 0, r.2)
def putI (n : Int) : List UInt8 :=
  if n < 0 then UInt8.ofNat (127 - (dig (-1 - n).toNat).length) :: tn 255 (dig (-1 - n).toNat) else UInt8.ofNat (128 + (dig n.toNat).length) :: dig n.toNat
def getI (l : List UInt8) : Int × Nat × Int :=
  if l = [] then (0, 0, 3) else
    if 128 ≤ (l.headD 0).toNat then
      let r := readN l.tail ((l.headD 0).toNat - 128) 0
      if r.2 = 0 then if 9223372036854775807 < r.1 then (0, 0, 4) else ((r.1 : Int), 1 + ((l.headD 0).toNat - 128), 0) else (0, 0, r.2)
    else
      let r := readN l.tail (127 - (l.headD 0).toNat) 255
      if r.2 = 0 then if 9223372036854775807 < r.1 then (0, 0, 4) else (-1 - (r.1 : Int), 1 + (127 - (l.headD 0).toNat), 0) else (0, 0, r.2)
def esc : List UInt8 → List UInt8
  | [] => []
  | b :: l => (if b = 0 then [0, 255] else [b]) ++ esc l
theorem esc_append (l m : List UInt8) : esc (l ++ m) = esc l ++ esc m := by
  induction l with
  | nil => rfl
  | cons b l ih => rw [List.cons_append, esc, esc, ih, List.append_assoc]
theorem esc_length (l : List UInt8) : (esc l).length ≤ 2 * l.length := by
  induction l with
  | nil => simp [esc]
  | cons b l ih => rw [esc, List.length_append, List.length_cons]; split <;> simp <;> omega
theorem esc_zero (l : List UInt8) : esc (l ++ [0]) = esc l ++ [0] ++ [255] := by rw [esc_append]; simp [esc]
theorem esc_other (l : List UInt8) (b : UInt8) (h : b ≠ 0) : esc (l ++ [b]) = esc l ++ [b] := by rw [esc_append]; simp [esc, h]
def putT (l : List UInt8) : List UInt8 := esc l ++ [0, 0]
def scanT : List UInt8 → List UInt8 → Nat → List UInt8 × Nat × Int
  | [], _, _ => ([], 0, 3)
  | [b], acc, _ => if b = 0 then ([], 0, 3) else if acc.length = 1024 then ([], 0, 2) else ([], 0, 3)
  | b :: d :: r, acc, p =>
    if b = 0 then
      if d = 0 then (acc, p + 2, 0) else if d = 255 then (if acc.length = 1024 then ([], 0, 2) else scanT r (acc ++ [0]) (p + 2)) else ([], 0, 4)
    else if acc.length = 1024 then ([], 0, 2) else scanT (d :: r) (acc ++ [b]) (p + 1)
def getT (l : List UInt8) : List UInt8 × Nat × Int := scanT l [] 0
theorem scan_full (b : UInt8) (r acc : List UInt8) (p : Nat) (h : b ≠ 0) (ha : acc.length = 1024) : scanT (b :: r) acc p = ([], 0, 2) := by
  cases r <;> rw [scanT, if_neg h, if_pos ha]
theorem scan_byte (b : UInt8) (r acc : List UInt8) (p : Nat) (h : b ≠ 0) (ha : acc.length ≠ 1024) : scanT (b :: r) acc p = scanT r (acc ++ [b]) (p + 1) := by
  cases r with
  | nil =>
    have h1 : scanT [b] acc p = ([], 0, 3) := by rw [scanT, if_neg h, if_neg ha]
    rw [h1]; rfl
  | cons d r => rw [scanT, if_neg h, if_neg ha]
theorem scan_end (acc : List UInt8) (p : Nat) : scanT [0] acc p = ([], 0, 3) := by rw [scanT, if_pos rfl]
theorem scan_zeros (r acc : List UInt8) (p : Nat) : scanT (0 :: 0 :: r) acc p = (acc, p + 2, 0) := by rw [scanT, if_pos rfl, if_pos rfl]
theorem scan_bad (d : UInt8) (r acc : List UInt8) (p : Nat) (h0 : d ≠ 0) (h1 : d ≠ 255) : scanT (0 :: d :: r) acc p = ([], 0, 4) := by rw [scanT, if_pos rfl, if_neg h0, if_neg h1]
theorem scan_esc_full (r acc : List UInt8) (p : Nat) (ha : acc.length = 1024) : scanT (0 :: 255 :: r) acc p = ([], 0, 2) := by rw [scanT, if_pos rfl, if_neg (by decide), if_pos rfl, if_pos ha]
theorem scan_esc (r acc : List UInt8) (p : Nat) (ha : acc.length ≠ 1024) : scanT (0 :: 255 :: r) acc p = scanT r (acc ++ [0]) (p + 2) := by rw [scanT, if_pos rfl, if_neg (by decide), if_pos rfl, if_neg ha]
end Nm
end Go.Proofs.YthpcbbkpjggjbaaGreatDoor
namespace Go.Proofs.YthpcbbkpjggjbaaGreatDoor
open Go.RowKit
theorem ret_int {k : IntKind} {a b : Int} (h : a = b) : Ending.returned (.int k a) = .returned (.int k b) := by rw [h]
theorem int_eq {k : IntKind} {a b : Int} (h : a = b) : Value.int k a = .int k b := by rw [h]
theorem take_snoc (s : ByteArray) (k : Nat) (h : k < s.size) : s.data.toList.take (k + 1) = s.data.toList.take k ++ [s[k]] := by
  rw [List.take_succ_eq_append_getElem (by simpa using h)]; rfl
theorem wrap_u64 (n : Int) (h0 : 0 ≤ n) (h1 : n < 18446744073709551616) : IntKind.u64.wrap n = n := by
  simp only [IntKind.wrap, IntKind.bits, IntKind.signed]
  simp; omega
theorem xor_u8 (b : UInt8) (t : Nat) (ht : t < 256) : b.toNat ^^^ t = (b ^^^ UInt8.ofNat t).toNat := by
  rw [UInt8.toNat_xor, UInt8.toNat_ofNat', Nat.mod_eq_of_lt (by simpa using ht)]
def B (b : UInt8) : Value := .int .u8 b.toNat
theorem info_u8 : (Tryz.prog.info? 5).map (fun i => (i.zero, i.size, i.bytes)) = some (some (.int .u8 0), 1, 1) := by kernel_rfl
theorem head_byte (s : ByteArray) (h : 0 < s.size) : s.data.toList.headD 0 = s[0] := by
  rw [List.headD_eq_head?_getD, List.head?_eq_getElem?, List.getElem?_eq_getElem (by simpa using h)]
  rfl
theorem run_str {base : Nat} {v : Value} {l : List UInt8} {w : World} (h : w.ownsRow base 5 1 v l.length (l.map B)) :
    (convert 129 9 v).run Tryz.prog w = .ok (.string ⟨l.toArray⟩) w := by
  obtain ⟨h1, h2⟩ := h
  rcases h2 with ⟨rfl, h0⟩ | ⟨g, cap, cur, rfl, hb, hg, hle, hm, hs, htk⟩
  · have : l = [] := List.length_eq_zero_iff.1 h0
    subst this
    exact run_convert_bytes_nil w 129 5 (by kernel_rfl) (by kernel_rfl) 0 0 9 (by kernel_rfl)
  · refine run_convert_bytes_back w 129 9 5 ⟨g, 0, none⟩ cap l (by kernel_rfl) (by kernel_rfl) (by kernel_rfl) ?_
    intro j hj
    have := World.ownsRow.cells (w := w) (base := base) (e := 5) (size := 1) (v := .slice (some ⟨g, 0, none⟩) l.length cap) (n := l.length) (xs := l.map B) ⟨h1, .inr ⟨g, cap, cur, rfl, hb, hg, hle, hm, hs, htk⟩⟩ (g := g) rfl j (B l[j]) (by simp [hj])
    simpa [B] using this
theorem owns_one (w : World) (c : Int) (h0 : 0 ≤ c) (h1 : c ≤ 255) :
    (w.alloc (.cells #[.int .u8 c] 5)).ownsRow w.heap.size 5 1 (.slice (some ⟨w.heap.size, 0, none⟩) 1 1) [UInt8.ofNat c.toNat].length ([UInt8.ofNat c.toNat].map B) :=
  ⟨by simp, .inr ⟨w.heap.size, 1, #[.int .u8 c], rfl, Nat.le_refl _, heap_alloc_new w _, Nat.le_refl _, by unfold maxLen; omega, rfl, by simp [B]; omega⟩⟩
theorem own_more {base : Nat} {w wr w1 : World} {v v1 : Value} {ys : List UInt8} {c : Int} {b : UInt8} {o : Obj} (hown : wr.ownsRow base 5 1 v ys.length (ys.map B))
    (hown1 : w1.ownsRow base 5 1 v1 (ys.length + 1) (ys.map B ++ [.int .u8 c])) (hc : c = b.toNat) (hg : (wr.alloc o).grownBy w1 v.ownBlock) (hbel : Below base w wr) (hbase : base ≤ w.heap.size) :
    w1.ownsRow base 5 1 v1 (ys ++ [b]).length ((ys ++ [b]).map B) ∧ Below base w w1 := by
  subst hc
  refine ⟨by simpa [B] using hown1, ?_⟩
  have hs := hbel.size
  refine (hbel.alloc (by omega) o).grown hg (by simp; omega) ?_
  intro k hk
  exact (hown.lt k hk).1
end Go.Proofs.YthpcbbkpjggjbaaGreatDoor
namespace Go.Proofs.YthpcbbkpjggjbaaGreatDoor
open Go.RowKit
structure Kept (p : Nat → Prop) (A B : World) : Prop where
  os : B.os = A.os
  tape : B.tape = A.tape
  output : B.output = A.output
  size : A.heap.size ≤ B.heap.size
  block : ∀ k, k < A.heap.size → p k → B.heap[k]? = A.heap[k]?
theorem Kept.refl (p : Nat → Prop) (A : World) : Kept p A A := ⟨rfl, rfl, rfl, Nat.le_refl _, fun _ _ _ => rfl⟩
theorem Kept.trans {p : Nat → Prop} {A B C : World} (h : Kept p A B) (k : Kept p B C) : Kept p A C :=
  ⟨k.os.trans h.os, k.tape.trans h.tape, k.output.trans h.output, Nat.le_trans h.size k.size, fun i hi hp => (k.block i (Nat.lt_of_lt_of_le hi h.size) hp).trans (h.block i hi hp)⟩
theorem Kept.mono {p q : Nat → Prop} {A B : World} (h : Kept p A B) (hpq : ∀ k, q k → p k) : Kept q A B :=
  ⟨h.os, h.tape, h.output, h.size, fun k hk hq => h.block k hk (hpq k hq)⟩
theorem Kept.of_below {p : Nat → Prop} {A B : World} (h : Below A.heap.size A B) : Kept p A B := ⟨h.os, h.tape, h.output, h.size, fun k hk _ => h.block k hk⟩
theorem Kept.of_below_at {p : Nat → Prop} {n : Nat} {A B : World} (h : Below n A B) (hp : ∀ k, p k → k < n) : Kept p A B := ⟨h.os, h.tape, h.output, h.size, fun k _ hk => h.block k (hp k hk)⟩
theorem Kept.below {p : Nat → Prop} {A B : World} (h : Kept p A B) {n : Nat} (hn : n ≤ A.heap.size) (hp : ∀ k, k < n → p k) : Below n A B :=
  ⟨h.os, h.tape, h.output, h.size, fun k hk => h.block k (by omega) (hp k hk)⟩
theorem Kept.alloc {p : Nat → Prop} {A B : World} (h : Kept p A B) (o : Obj) : Kept p A (B.alloc o) :=
  h.trans (Kept.of_below ((Below.refl _ B).alloc (Nat.le_refl _) o))
theorem Kept.drew {p : Nat → Prop} {A B : World} (h : Kept p A B) : Kept p A B.drew := ⟨h.os, h.tape, h.output, h.size, h.block⟩
theorem Kept.setCell {p : Nat → Prop} {A B : World} (h : Kept p A B) {a : Addr} (ha : ¬ p a.block) (v : Value) : Kept p A (B.setCell a v) :=
  h.trans ⟨rfl, rfl, rfl, by simp [World.setCell], fun k _ hk => Below.heap_setCell _ _ _ _ (fun e => ha (by rw [← e]; exact hk))⟩
theorem Kept.grown {p : Nat → Prop} {A B C : World} {row : Option Nat} (h : Kept p A B) (hg : B.grownBy C row) (hr : ∀ k, row = some k → ¬ p k) : Kept p A C :=
  h.trans ⟨hg.os, hg.tape, hg.output, hg.size, fun k hk hp => hg.block k hk (fun e => hr k e.symm hp)⟩
theorem Kept.obj {p : Nat → Prop} {A B : World} (h : Kept p A B) {k : Nat} {o : Obj} (hk : p k) (ho : A.heap[k]? = some o) : B.heap[k]? = some o :=
  (h.block k (Array.getElem?_eq_some_iff.1 ho).1 hk).trans ho
end Go.Proofs.YthpcbbkpjggjbaaGreatDoor
namespace Go.Proofs.YthpcbbkpjggjbaaGreatDoor
open Go.RowKit
structure Rx {α : Type} (k : Nat) (C : α → List Value) (w : World) (v : Value) (l : List α) : Prop where
  at_ : ((∃ a c, v = .slice a 0 c) ∧ l = []) ∨ ∃ bk o cap, v = .slice (some ⟨bk, o, none⟩) l.length cap ∧ bk < w.heap.size ∧
    ∀ j t, l[j]? = some t → ∀ r u, (C t)[r]? = some u → w.cell? ⟨bk, o + j * k + r, none⟩ = some u
  room : ∃ a n c, v = .slice a n c ∧ n ≤ c ∧ c ≤ 9223372036854775807
section
variable {α : Type} {k : Nat} {C : α → List Value}
theorem Rx.slice {w : World} {v : Value} {l : List α} (h : Rx k C w v l) : ∃ a c, v = .slice a l.length c ∧ l.length ≤ c ∧ c ≤ 9223372036854775807 := by
  obtain ⟨a', n', c', e, h1, h2⟩ := h.room
  rcases h.at_ with ⟨⟨a, c, rfl⟩, rfl⟩ | ⟨bk, o, cap, rfl, _⟩
  · rw [Value.slice.injEq] at e
    obtain ⟨rfl, rfl, rfl⟩ := e
    exact ⟨_, _, rfl, h1, h2⟩
  · rw [Value.slice.injEq] at e
    obtain ⟨rfl, rfl, rfl⟩ := e
    exact ⟨_, _, rfl, h1, h2⟩
theorem Rx.kept {p : Nat → Prop} {w w' : World} {v : Value} {l : List α} (h : Rx k C w v l) (hk : Kept p w w') (hp : ∀ a n c, v = .slice (some a) n c → p a.block) : Rx k C w' v l := by
  rcases h.at_ with h' | ⟨bk, o, cap, h1, h3, h4⟩
  · exact ⟨.inl h', h.room⟩
  · refine ⟨.inr ⟨bk, o, cap, h1, Nat.lt_of_lt_of_le h3 hk.size, fun j t hj r u hu => ?_⟩, h.room⟩
    have e := hk.block bk h3 (hp _ _ _ h1)
    have e2 : ∀ q, w'.cell? ⟨bk, q, none⟩ = w.cell? ⟨bk, q, none⟩ := fun q => by simp only [World.cell?, e]
    rw [e2]
    exact h4 j t hj r u hu
theorem Rx.below {w w' : World} {v : Value} {l : List α} (h : Rx k C w v l) (hb : Below w.heap.size w w') : Rx k C w' v l := h.kept (Kept.of_below (p := fun _ => True) hb) fun _ _ _ _ => trivial
theorem Rx.get {w : World} {a : Option Addr} {n c : Nat} {l : List α} (h : Rx k C w (.slice a n c) l) (j : Nat) (t : α) (hj : l[j]? = some t) : ∃ bk o, a = some ⟨bk, o, none⟩ ∧ bk < w.heap.size ∧
    ∀ r u, (C t)[r]? = some u → w.cell? ⟨bk, o + j * k + r, none⟩ = some u := by
  rcases h.at_ with ⟨_, rfl⟩ | ⟨bk, o, cap, h1, h3, h4⟩
  · simp at hj
  · rw [Value.slice.injEq] at h1
    obtain ⟨rfl, rfl, rfl⟩ := h1
    exact ⟨bk, o, rfl, h3, h4 j t hj⟩
def rowR (C : α → List Value) (l : List α) : List Value := l.flatMap C
theorem rowR_length (hC : ∀ t, (C t).length = k) (l : List α) : (rowR C l).length = l.length * k := by
  induction l with
  | nil => simp [rowR]
  | cons t l ih => show (C t ++ rowR C l).length = _; rw [List.length_append, ih, List.length_cons, hC, Nat.add_mul, Nat.one_mul, Nat.add_comm]
theorem rowR_more (l : List α) (t : α) : rowR C (l ++ [t]) = rowR C l ++ C t := by simp [rowR]
theorem rowR_get (hC : ∀ t, (C t).length = k) (l : List α) (i r : Nat) (t : α) (hi : l[i]? = some t) (hr : r < k) : (rowR C l)[i * k + r]? = (C t)[r]? := by
  induction l generalizing i with
  | nil => simp at hi
  | cons q l ih =>
    show (C q ++ rowR C l)[i * k + r]? = _
    cases i with
    | zero =>
      obtain rfl : q = t := by simpa using hi
      rw [Nat.zero_mul, Nat.zero_add, List.getElem?_append_left (by rw [hC]; exact hr)]
    | succ i =>
      rw [List.getElem?_append_right (by rw [hC, Nat.add_mul, Nat.one_mul]; omega), hC, show (i + 1) * k + r - k = i * k + r from by rw [Nat.add_mul, Nat.one_mul]; omega, ih i (by simpa using hi)]
theorem rowR_one (hC : ∀ t, ∀ u ∈ C t, u.oneCell' = true) (l : List α) : ∀ u ∈ rowR C l, u.oneCell' = true := by
  intro u hu
  obtain ⟨t, _, ht⟩ := List.mem_flatMap.1 hu
  exact hC t u ht
theorem Rx.of_own {base : Nat} {T : TypeId} {w : World} {v : Value} {l : List α} (hC : ∀ t, (C t).length = k) (h : w.ownsRow base T k v l.length (rowR C l)) : Rx k C w v l := by
  rcases h.2 with ⟨rfl, h0⟩ | ⟨g, cap, cur, rfl, hg, hh, h1, h2, _⟩
  · exact ⟨.inl ⟨⟨_, _, rfl⟩, List.length_eq_zero_iff.1 h0⟩, _, _, _, rfl, Nat.le_refl _, by omega⟩
  · refine ⟨.inr ⟨g, 0, cap, rfl, (Array.getElem?_eq_some_iff.1 hh).1, fun j t hj r u hu => ?_⟩, _, _, _, rfl, h1, by unfold maxLen at h2; omega⟩
    have hr : r < k := by
      have := (List.getElem?_eq_some_iff.1 hu).1
      rwa [hC] at this
    have := World.ownsRow.cells h (g := g) rfl (j * k + r) u (by rw [rowR_get hC l j r t hj hr]; exact hu)
    rw [show (0 : Nat) + j * k + r = j * k + r from by omega]
    rwa [show ((⟨g, 0, none⟩ : Addr).add (j * k + r)) = ⟨g, j * k + r, none⟩ from by unfold Addr.add; split <;> simp_all] at this
theorem own_one_more {base : Nat} {T : TypeId} {w1 : World} {v1 : Value} {l : List α} {t : α} (h : w1.ownsRow base T k v1 (l.length + 1) (rowR C l ++ C t)) : w1.ownsRow base T k v1 (l ++ [t]).length (rowR C (l ++ [t])) := by
  rw [rowR_more, List.length_append, List.length_singleton]
  exact h
end
def idV (x : List UInt8) : Value := .agg (x.map B).toArray
def idC (x : List UInt8) : List Value := x.map B
end Go.Proofs.YthpcbbkpjggjbaaGreatDoor
namespace Go.Proofs.YthpcbbkpjggjbaaGreatDoor
namespace Nn
open Go.Lib
def fin (low c n : Nat) : Nat × Nat := if c < low ∨ 1114111 < c ∨ (55296 ≤ c ∧ c < 57344) then (0, 0) else (c, n)
def chrR (n b0 b1 b2 b3 : Nat) : Nat × Nat :=
  if b0 < 128 then (b0, 1)
  else if 194 ≤ b0 ∧ b0 < 224 then
    (if n < 2 ∨ (b1 < 128 ∨ 191 < b1) then (0, 0) else fin 128 (64 * (b0 - 192) + b1 - 128) 2)
  else if 224 ≤ b0 ∧ b0 < 240 then
    (if n < 3 ∨ (b1 < 128 ∨ 191 < b1) ∨ (b2 < 128 ∨ 191 < b2) then (0, 0) else fin 2048 (64 * (64 * (b0 - 224) + b1 - 128) + b2 - 128) 3)
  else if 240 ≤ b0 ∧ b0 < 245 then
    (if n < 4 ∨ (b1 < 128 ∨ 191 < b1) ∨ (b2 < 128 ∨ 191 < b2) ∨ (b3 < 128 ∨ 191 < b3) then (0, 0) else fin 65536 (64 * (64 * (64 * (b0 - 240) + b1 - 128) + b2 - 128) + b3 - 128) 4)
  else (0, 0)
theorem chr_two (n b0 b1 b2 b3 : Nat) (h1 : b1 < 256) (hb : 194 ≤ b0 ∧ b0 < 224) : chrR n b0 b1 b2 b3 = if decodeN n b0 b1 b2 b3 = (65533, 1) then (0, 0) else decodeN n b0 b1 b2 b3 := by
  unfold chrR decodeN
  rw [if_neg (by omega), if_pos hb, if_neg (show ¬ b0 < 128 by omega)]
  by_cases c : n < 2 ∨ (b1 < 128 ∨ 191 < b1)
  · rw [if_pos c, if_neg (show ¬ (b0 / 32 = 6 ∧ (1 < n ∧ b1 / 64 = 2)) by omega), if_neg (show ¬ (b0 / 16 = 14 ∧ (1 < n ∧ b1 / 64 = 2) ∧ (2 < n ∧ b2 / 64 = 2)) by omega), if_neg (show ¬ (b0 / 8 = 30 ∧ (1 < n ∧ b1 / 64 = 2) ∧ (2 < n ∧ b2 / 64 = 2) ∧ (3 < n ∧ b3 / 64 = 2)) by omega), if_pos rfl]
  · rw [if_neg c, if_pos (show b0 / 32 = 6 ∧ (1 < n ∧ b1 / 64 = 2) by omega), if_pos (show b0 % 32 * 64 + b1 % 64 ≥ 128 by omega), if_neg (by simp only [Prod.mk.injEq]; omega), fin, if_neg (by omega)]
    simp only [Prod.mk.injEq, and_true]
    omega
theorem chr_three (n b0 b1 b2 b3 : Nat) (h1 : b1 < 256) (h2 : b2 < 256) (hb : 224 ≤ b0 ∧ b0 < 240) : chrR n b0 b1 b2 b3 = if decodeN n b0 b1 b2 b3 = (65533, 1) then (0, 0) else decodeN n b0 b1 b2 b3 := by
  unfold chrR decodeN
  rw [if_neg (by omega), if_neg (by omega), if_pos hb, if_neg (show ¬ b0 < 128 by omega), if_neg (show ¬ (b0 / 32 = 6 ∧ (1 < n ∧ b1 / 64 = 2)) by omega)]
  by_cases c : n < 3 ∨ (b1 < 128 ∨ 191 < b1) ∨ (b2 < 128 ∨ 191 < b2)
  · rw [if_pos c, if_neg (show ¬ (b0 / 16 = 14 ∧ (1 < n ∧ b1 / 64 = 2) ∧ (2 < n ∧ b2 / 64 = 2)) by omega), if_neg (show ¬ (b0 / 8 = 30 ∧ (1 < n ∧ b1 / 64 = 2) ∧ (2 < n ∧ b2 / 64 = 2) ∧ (3 < n ∧ b3 / 64 = 2)) by omega), if_pos rfl]
  · rw [if_neg c, if_pos (show b0 / 16 = 14 ∧ (1 < n ∧ b1 / 64 = 2) ∧ (2 < n ∧ b2 / 64 = 2) by omega)]
    have e : 64 * (64 * (b0 - 224) + b1 - 128) + b2 - 128 = b0 % 16 * 4096 + b1 % 64 * 64 + b2 % 64 := by omega
    rw [e]
    generalize b0 % 16 * 4096 + b1 % 64 * 64 + b2 % 64 = v
    unfold fin
    by_cases d : v ≥ 2048 ∧ (v < 55296 ∨ (57344 ≤ v ∧ v ≤ 1114111))
    · rw [if_pos d, if_neg (by omega), if_neg (by simp only [Prod.mk.injEq]; omega)]
    · rw [if_neg d, if_pos (by omega), if_pos rfl]
theorem chr_four (n b0 b1 b2 b3 : Nat) (h1 : b1 < 256) (h2 : b2 < 256) (h3 : b3 < 256) (hb : 240 ≤ b0 ∧ b0 < 245) : chrR n b0 b1 b2 b3 = if decodeN n b0 b1 b2 b3 = (65533, 1) then (0, 0) else decodeN n b0 b1 b2 b3 := by
  unfold chrR decodeN
  rw [if_neg (by omega), if_neg (by omega), if_neg (by omega), if_pos hb, if_neg (show ¬ b0 < 128 by omega), if_neg (show ¬ (b0 / 32 = 6 ∧ (1 < n ∧ b1 / 64 = 2)) by omega), if_neg (show ¬ (b0 / 16 = 14 ∧ (1 < n ∧ b1 / 64 = 2) ∧ (2 < n ∧ b2 / 64 = 2)) by omega)]
  by_cases c : n < 4 ∨ (b1 < 128 ∨ 191 < b1) ∨ (b2 < 128 ∨ 191 < b2) ∨ (b3 < 128 ∨ 191 < b3)
  · rw [if_pos c, if_neg (show ¬ (b0 / 8 = 30 ∧ (1 < n ∧ b1 / 64 = 2) ∧ (2 < n ∧ b2 / 64 = 2) ∧ (3 < n ∧ b3 / 64 = 2)) by omega), if_pos rfl]
  · rw [if_neg c, if_pos (show b0 / 8 = 30 ∧ (1 < n ∧ b1 / 64 = 2) ∧ (2 < n ∧ b2 / 64 = 2) ∧ (3 < n ∧ b3 / 64 = 2) by omega)]
    have e : 64 * (64 * (64 * (b0 - 240) + b1 - 128) + b2 - 128) + b3 - 128 = b0 % 8 * 262144 + b1 % 64 * 4096 + b2 % 64 * 64 + b3 % 64 := by omega
    rw [e]
    generalize b0 % 8 * 262144 + b1 % 64 * 4096 + b2 % 64 * 64 + b3 % 64 = v
    unfold fin
    by_cases d : v ≥ 65536 ∧ (v < 55296 ∨ (57344 ≤ v ∧ v ≤ 1114111))
    · rw [if_pos d, if_neg (by omega), if_neg (by simp only [Prod.mk.injEq]; omega)]
    · rw [if_neg d, if_pos (by omega), if_pos rfl]
theorem chrR_dec (n b0 b1 b2 b3 : Nat) (h0 : b0 < 256) (h1 : b1 < 256) (h2 : b2 < 256) (h3 : b3 < 256) :
    chrR n b0 b1 b2 b3 = if decodeN n b0 b1 b2 b3 = (65533, 1) then (0, 0) else decodeN n b0 b1 b2 b3 := by
  by_cases c1 : b0 < 128
  · have e : decodeN n b0 b1 b2 b3 = (b0, 1) := by unfold decodeN; rw [if_pos c1]
    rw [e, if_neg (by simp only [Prod.mk.injEq]; omega)]
    unfold chrR; rw [if_pos c1]
  by_cases c2 : 194 ≤ b0 ∧ b0 < 224
  · exact chr_two n b0 b1 b2 b3 h1 c2
  by_cases c3 : 224 ≤ b0 ∧ b0 < 240
  · exact chr_three n b0 b1 b2 b3 h1 h2 c3
  by_cases c4 : 240 ≤ b0 ∧ b0 < 245
  · exact chr_four n b0 b1 b2 b3 h1 h2 h3 c4
  have e : decodeN n b0 b1 b2 b3 = (65533, 1) := by
    unfold decodeN
    rw [if_neg c1]
    by_cases d : b0 / 32 = 6 ∧ (1 < n ∧ b1 / 64 = 2)
    · rw [if_pos d, if_neg (by omega)]
    · rw [if_neg d, if_neg (by omega)]
      by_cases f : b0 / 8 = 30 ∧ (1 < n ∧ b1 / 64 = 2) ∧ (2 < n ∧ b2 / 64 = 2) ∧ (3 < n ∧ b3 / 64 = 2)
      · rw [if_pos f, if_neg (by omega)]
      · rw [if_neg f]
  rw [e, if_pos rfl]
  unfold chrR
  rw [if_neg c1, if_neg c2, if_neg c3, if_neg c4]
def chr (l : List UInt8) : Nat × Nat := if l = [] then (0, 0) else if decodeL l = (65533, 1) then (0, 0) else decodeL l
theorem chr_R (l : List UInt8) (h : l ≠ []) : chr l = chrR l.length (l.getD 0 0).toNat (l.getD 1 0).toNat (l.getD 2 0).toNat (l.getD 3 0).toNat := by
  rw [chr, if_neg h, chrR_dec _ _ _ _ _ (UInt8.toNat_lt _) (UInt8.toNat_lt _) (UInt8.toNat_lt _) (UInt8.toNat_lt _), ← decodeL_N]
theorem chr_le (l : List UInt8) : (chr l).2 ≤ l.length := by
  unfold chr
  split
  · exact Nat.zero_le _
  · rename_i h
    split
    · exact Nat.zero_le _
    · exact decodeL_le l h
theorem fin_two {low c n : Nat} (h : (fin low c n).2 ≠ 0) : fin low c n = (c, n) := by
  unfold fin at h ⊢
  split
  · rename_i q; rw [if_pos q] at h; exact absurd rfl h
  · rfl
theorem chrR_bytes {n b0 b1 b2 b3 : Nat} (hn : (chrR n b0 b1 b2 b3).2 ≠ 0) : (b0 < 128 ∧ chrR n b0 b1 b2 b3 = (b0, 1)) ∨ ((chrR n b0 b1 b2 b3).2 = 2 ∧ 128 ≤ b0 ∧ 128 ≤ b1) ∨
    ((chrR n b0 b1 b2 b3).2 = 3 ∧ 128 ≤ b0 ∧ 128 ≤ b1 ∧ 128 ≤ b2) ∨ ((chrR n b0 b1 b2 b3).2 = 4 ∧ 128 ≤ b0 ∧ 128 ≤ b1 ∧ 128 ≤ b2 ∧ 128 ≤ b3) := by
  unfold chrR at hn ⊢
  by_cases c1 : b0 < 128
  · rw [if_pos c1]; exact .inl ⟨c1, rfl⟩
  rw [if_neg c1] at hn ⊢
  right
  by_cases c2 : 194 ≤ b0 ∧ b0 < 224
  · rw [if_pos c2] at hn ⊢
    by_cases d : n < 2 ∨ (b1 < 128 ∨ 191 < b1)
    · rw [if_pos d] at hn; exact absurd rfl hn
    · rw [if_neg d] at hn ⊢
      rw [fin_two hn]
      exact .inl ⟨rfl, by omega, by omega⟩
  rw [if_neg c2] at hn ⊢
  by_cases c3 : 224 ≤ b0 ∧ b0 < 240
  · rw [if_pos c3] at hn ⊢
    by_cases d : n < 3 ∨ (b1 < 128 ∨ 191 < b1) ∨ (b2 < 128 ∨ 191 < b2)
    · rw [if_pos d] at hn; exact absurd rfl hn
    · rw [if_neg d] at hn ⊢
      rw [fin_two hn]
      exact .inr (.inl ⟨rfl, by omega, by omega, by omega⟩)
  rw [if_neg c3] at hn ⊢
  by_cases c4 : 240 ≤ b0 ∧ b0 < 245
  · rw [if_pos c4] at hn ⊢
    by_cases d : n < 4 ∨ (b1 < 128 ∨ 191 < b1) ∨ (b2 < 128 ∨ 191 < b2) ∨ (b3 < 128 ∨ 191 < b3)
    · rw [if_pos d] at hn; exact absurd rfl hn
    · rw [if_neg d] at hn ⊢
      rw [fin_two hn]
      exact .inr (.inr ⟨rfl, by omega, by omega, by omega, by omega⟩)
  rw [if_neg c4] at hn
  exact absurd rfl hn
theorem chr_bytes (l : List UInt8) (h : l ≠ []) (hn : (chr l).2 ≠ 0) : ((chr l).2 = 1 ∧ (chr l).1 = (l.getD 0 0).toNat ∧ (l.getD 0 0).toNat < 128) ∨ (2 ≤ (chr l).2 ∧ ∀ j, j < (chr l).2 → 128 ≤ (l.getD j 0).toNat) := by
  have hr := chr_R l h
  rw [hr] at hn ⊢
  rcases chrR_bytes hn with ⟨h1, e⟩ | ⟨e, h1, h2⟩ | ⟨e, h1, h2, h3⟩ | ⟨e, h1, h2, h3, h4⟩
  · rw [e]; exact .inl ⟨rfl, rfl, h1⟩
  · refine .inr ⟨by omega, fun j hj => ?_⟩
    rw [e] at hj
    match j, hj with
    | 0, _ => exact h1
    | 1, _ => exact h2
  · refine .inr ⟨by omega, fun j hj => ?_⟩
    rw [e] at hj
    match j, hj with
    | 0, _ => exact h1
    | 1, _ => exact h2
    | 2, _ => exact h3
  · refine .inr ⟨by omega, fun j hj => ?_⟩
    rw [e] at hj
    match j, hj with
    | 0, _ => exact h1
    | 1, _ => exact h2
    | 2, _ => exact h3
    | 3, _ => exact h4
def charsF : Nat → List UInt8 → Option (List Nat)
  | 0, l => if l = [] then some [] else none
  | k + 1, l => if l = [] then some [] else if (chr l).2 = 0 then none else (charsF k (l.drop (chr l).2)).map ((chr l).1 :: ·)
def chars (l : List UInt8) : Option (List Nat) := charsF l.length l
theorem charsF_more : ∀ (k m : Nat) (l : List UInt8), l.length ≤ k → l.length ≤ m → charsF k l = charsF m l
  | k, m, [], _, _ => by cases k <;> cases m <;> simp [charsF]
  | 0, _, b :: l, h, _ => by simp at h
  | _, 0, b :: l, _, h => by simp at h
  | k + 1, m + 1, b :: l, h1, h2 => by
    have q : ¬ (b :: l = []) := by simp
    by_cases c : (chr (b :: l)).2 = 0
    · simp only [charsF, if_neg q, if_pos c]
    · simp only [charsF, if_neg q, if_neg c]
      congr 1
      have hd : ((b :: l).drop (chr (b :: l)).2).length ≤ l.length := by rw [List.length_drop, List.length_cons]; omega
      simp only [List.length_cons] at h1 h2
      exact charsF_more k m _ (by omega) (by omega)
theorem chars_nil : chars [] = some [] := rfl
theorem chars_step (l : List UInt8) (h : l ≠ []) : chars l = if (chr l).2 = 0 then none else (chars (l.drop (chr l).2)).map ((chr l).1 :: ·) := by
  obtain ⟨b, r, rfl⟩ : ∃ b r, l = b :: r := by
    cases l with
    | nil => exact absurd rfl h
    | cons b r => exact ⟨b, r, rfl⟩
  rw [chars, List.length_cons, charsF, if_neg (by simp)]
  by_cases c : (chr (b :: r)).2 = 0
  · rw [if_pos c, if_pos c]
  · rw [if_neg c, if_neg c]
    congr 1
    refine charsF_more _ _ _ ?_ (Nat.le_refl _)
    rw [List.length_drop, List.length_cons]
    omega
theorem chars_ind {p : List UInt8 → Prop} (h0 : p []) (hs : ∀ l, l ≠ [] → ((chr l).2 ≠ 0 → p (l.drop (chr l).2)) → p l) (l : List UInt8) : p l := by
  have key : ∀ (k : Nat) (l : List UInt8), l.length ≤ k → p l := by
    intro k
    induction k with
    | zero => intro l hl; rw [List.length_eq_zero_iff.1 (Nat.le_zero.1 hl)]; exact h0
    | succ k ih =>
      intro l hl
      by_cases e : l = []
      · rw [e]; exact h0
      · exact hs l e fun hn => ih _ (by rw [List.length_drop]; have := List.length_pos_iff.2 e; omega)
  exact key _ l (Nat.le_refl _)
theorem chars_byte (b : UInt8) (hb : b.toNat < 128) : ∀ (l : List UInt8) (cs : List Nat), chars l = some cs → b ∈ l → b.toNat ∈ cs := by
  intro l
  induction l using chars_ind with
  | h0 => intro cs _ h; simp at h
  | hs l hne ih =>
    intro cs hc hm
    rw [chars_step l hne] at hc
    by_cases c : (chr l).2 = 0
    · rw [if_pos c] at hc; cases hc
    rw [if_neg c] at hc
    obtain ⟨ds, hd, rfl⟩ := Option.map_eq_some_iff.1 hc
    rw [← List.take_append_drop (chr l).2 l] at hm
    rcases List.mem_append.1 hm with hm | hm
    · obtain ⟨j, hj, e⟩ := List.getElem_of_mem hm
      rw [List.length_take] at hj
      rw [List.getElem_take] at e
      have hg : l.getD j 0 = b := by rw [List.getD_eq_getElem?_getD, List.getElem?_eq_getElem (by omega), e]; rfl
      rcases chr_bytes l hne c with ⟨h1, h2, _⟩ | ⟨_, h2⟩
      · obtain rfl : j = 0 := by omega
        rw [hg] at h2
        rw [h2]; exact List.mem_cons_self
      · have := h2 j (by omega)
        rw [hg] at this
        omega
    · exact List.mem_cons_of_mem _ (ih c ds hd hm)
theorem chars_empty (l : List UInt8) : chars l = some [] ↔ l = [] := by
  constructor
  · intro h
    by_cases e : l = []
    · exact e
    · rw [chars_step l e] at h
      split at h
      · cases h
      · obtain ⟨_, _, q⟩ := Option.map_eq_some_iff.1 h
        cases q
  · rintro rfl; rfl
def nm (s : List UInt8) : Int :=
  match chars s with
  | none => 8
  | some l => if l = [] ∨ s = [46] ∨ s = [46, 46] then 8 else if l.any (fun c => decide (c = 47 ∨ c < 32 ∨ c = 127)) then 8 else if 24 < l.length then 2 else 0
theorem nm_ok {s : List UInt8} (h : nm s = 0) : s ≠ [] ∧ s ≠ [46] ∧ s ≠ [46, 46] ∧ (47 : UInt8) ∉ s := by
  unfold nm at h
  cases hc : chars s with
  | none => rw [hc] at h; simp at h
  | some l =>
    rw [hc] at h
    dsimp only at h
    split at h
    · simp at h
    rename_i q
    split at h
    · simp at h
    rename_i r
    simp only [not_or] at q
    refine ⟨fun e => q.1 (Option.some.inj (hc.symm.trans ((chars_empty s).2 e))), q.2.1, q.2.2, fun hm => ?_⟩
    have := chars_byte 47 (by decide) s l hc hm
    exact r (List.any_eq_true.2 ⟨47, this, by simp⟩)
theorem fin_le {low c n : Nat} (hn : n ≤ 4) : (fin low c n).2 ≤ 4 := by
  unfold fin; split
  · exact Nat.zero_le _
  · exact hn
theorem chrR_four (n b0 b1 b2 b3 : Nat) : (chrR n b0 b1 b2 b3).2 ≤ 4 := by
  unfold chrR
  repeat' split
  all_goals first | exact fin_le (by omega) | simp
theorem chr_four_le (l : List UInt8) : (chr l).2 ≤ 4 := by
  by_cases h : l = []
  · subst h; decide
  · rw [chr_R l h]; exact chrR_four ..
theorem chars_long (l : List UInt8) : ∀ cs, chars l = some cs → l.length ≤ 4 * cs.length := by
  induction l using chars_ind with
  | h0 => intro cs _; simp
  | hs l hne ih =>
    intro cs h
    rw [chars_step l hne] at h
    split at h
    · cases h
    rename_i hz
    obtain ⟨r, h2, rfl⟩ := Option.map_eq_some_iff.1 h
    have := ih hz r h2
    have h4 := chr_four_le l
    rw [List.length_drop] at this
    simp only [List.length_cons]
    omega
theorem nm_long {s : List UInt8} (h : nm s = 0) : s.length ≤ 96 := by
  unfold nm at h
  cases hc : chars s with
  | none => rw [hc] at h; simp at h
  | some l =>
    rw [hc] at h
    dsimp only at h
    split at h
    · simp at h
    split at h
    · simp at h
    split at h
    · simp at h
    have := chars_long s l hc
    omega
end Nn
end Go.Proofs.YthpcbbkpjggjbaaGreatDoor
namespace Go.Proofs.YthpcbbkpjggjbaaGreatDoor
namespace Nn
abbrev Name := List UInt8
def cut : List UInt8 → List Name
  | [] => [[]]
  | b :: l => if b = 47 then [] :: cut l else (b :: (cut l).headD []) :: (cut l).tail
theorem cut_ne (l : List UInt8) : cut l ≠ [] := by
  cases l with
  | nil => simp [cut]
  | cons b l => rw [cut]; split <;> simp
theorem cut_slash (a b : List UInt8) : cut (a ++ 47 :: b) = cut a ++ cut b := by
  induction a with
  | nil => simp [cut]
  | cons c a ih =>
    rw [List.cons_append, cut, cut, ih]
    by_cases h : c = 47
    · rw [if_pos h, if_pos h, List.cons_append]
    · rw [if_neg h, if_neg h]
      obtain ⟨x, r, e⟩ : ∃ x r, cut a = x :: r := by
        cases q : cut a with
        | nil => exact absurd q (cut_ne a)
        | cons x r => exact ⟨x, r, rfl⟩
      rw [e]
      rfl
theorem cut_plain {a : List UInt8} (h : (47 : UInt8) ∉ a) : cut a = [a] := by
  induction a with
  | nil => rfl
  | cons c a ih =>
    have h1 : c ≠ 47 := fun e => h (by rw [e]; exact List.mem_cons_self)
    rw [cut, if_neg h1, ih fun q => h (List.mem_cons_of_mem _ q)]
    rfl
def tails (l : List Name) : List UInt8 := l.flatMap (47 :: ·)
theorem tails_cut : ∀ (p : List UInt8), tails (cut p) = 47 :: p
  | [] => rfl
  | b :: l => by
    have ih := tails_cut l
    rw [cut]
    by_cases h : b = 47
    · rw [if_pos h, tails, List.flatMap_cons, ← tails, ih, h]; rfl
    · rw [if_neg h]
      obtain ⟨x, r, e⟩ : ∃ x r, cut l = x :: r := by
        cases q : cut l with
        | nil => exact absurd q (cut_ne l)
        | cons x r => exact ⟨x, r, rfl⟩
      rw [e] at ih ⊢
      rw [tails, List.flatMap_cons, ← tails] at ih ⊢
      have : x ++ tails r = l := by simpa using ih
      rw [← this]
      rfl
theorem cut_tails {l : List Name} (h : ∀ s ∈ l, (47 : UInt8) ∉ s) : cut (tails l) = [] :: l := by
  induction l with
  | nil => rfl
  | cons s l ih =>
    have h1 := h s List.mem_cons_self
    have h2 := ih fun x hx => h x (List.mem_cons_of_mem _ hx)
    cases l with
    | nil =>
      show cut (47 :: (s ++ [])) = _
      rw [List.append_nil, cut, if_pos rfl, cut_plain h1]
    | cons t l =>
      have e : tails (s :: t :: l) = 47 :: (s ++ tails (t :: l)) := rfl
      have e2 : tails (t :: l) = 47 :: (t ++ tails l) := rfl
      rw [e, e2, cut, if_pos rfl, cut_slash, cut_plain h1]
      rw [e2, cut, if_pos rfl] at h2
      rw [(List.cons.inj h2).2]
      rfl
def errsF : Nat → List Name → Int
  | _, [] => 0
  | i, s :: l => if 8 ≤ i then 14 else if nm s ≠ 0 then nm s else errsF (i + 1) l
def errs (l : List Name) : Int := errsF 0 l
theorem errsF_ok : ∀ (l : List Name) (i : Nat), errsF i l = 0 → ∀ s ∈ l, nm s = 0
  | [], _, _, s, h => by simp at h
  | t :: l, i, h, s, hs => by
    rw [errsF] at h
    split at h
    · simp at h
    · split at h
      · rename_i q; exact absurd h q
      · rename_i q
        rcases List.mem_cons.1 hs with e | e
        · rw [e]; simpa using q
        · exact errsF_ok l (i + 1) h s e
theorem errs_ok {l : List Name} (h : errs l = 0) : ∀ s ∈ l, nm s = 0 := errsF_ok l 0 h
def joinB (l : List Name) : List UInt8 := if l = [] then [47] else tails l
def join (l : List Name) : List UInt8 × Int := if errs l ≠ 0 then ([], errs l) else (joinB l, 0)
def split (p : List UInt8) : List Name × Int :=
  if p.head? ≠ some 47 then ([], 8) else if p = [47] then ([], 0) else if errs (cut p.tail) ≠ 0 then ([], errs (cut p.tail)) else (cut p.tail, 0)
theorem split_join {p : List UInt8} {m : List Name} (h : split p = (m, 0)) : join m = (p, 0) := by
  unfold split at h
  split at h
  · cases h
  rename_i q
  simp only [ne_eq, Classical.not_not] at q
  split at h
  · rename_i e
    obtain ⟨rfl, _⟩ := Prod.mk.inj h
    rw [e]; rfl
  rename_i e
  split at h
  · rename_i f
    obtain ⟨_, h2⟩ := Prod.mk.inj h
    exact absurd h2 f
  rename_i f
  obtain ⟨rfl, _⟩ := Prod.mk.inj h
  have f' : errs (cut p.tail) = 0 := by simpa using f
  unfold join
  rw [if_neg (by rw [f']; simp), joinB, if_neg (cut_ne _), tails_cut]
  congr 1
  cases p with
  | nil => simp at q
  | cons b r =>
    obtain rfl : b = 47 := by simpa using q
    rfl
theorem noslash {l : List Name} (h : errs l = 0) : ∀ s ∈ l, (47 : UInt8) ∉ s := fun s hs => (nm_ok (errs_ok h s hs)).2.2.2
theorem join_ok {l : List Name} {q : List UInt8} (h : join l = (q, 0)) : errs l = 0 ∧ q = joinB l := by
  unfold join at h
  split at h
  · rename_i e
    obtain ⟨_, h2⟩ := Prod.mk.inj h
    exact absurd h2 e
  · rename_i e
    exact ⟨by simpa using e, (Prod.mk.inj h).1.symm⟩
theorem join_split {l : List Name} {q : List UInt8} (h : join l = (q, 0)) : split q = (l, 0) := by
  obtain ⟨he, rfl⟩ := join_ok h
  cases l with
  | nil => rfl
  | cons s l =>
    have hc : cut (joinB (s :: l)) = [] :: s :: l := by
      rw [joinB, if_neg (by simp)]
      exact cut_tails (noslash he)
    have e : joinB (s :: l) = 47 :: (s ++ tails l) := by rw [joinB, if_neg (by simp)]; rfl
    rw [e, cut, if_pos rfl] at hc
    have hs := (nm_ok (errs_ok he s List.mem_cons_self)).1
    unfold split
    rw [e, if_neg (by simp), if_neg (by intro q; have := (List.cons.inj q).2; exact hs (List.append_eq_nil_iff.1 this).1), List.tail_cons, (List.cons.inj hc).2, if_neg (by rw [he]; simp)]
end Nn
end Go.Proofs.YthpcbbkpjggjbaaGreatDoor
namespace Go.Proofs.YthpcbbkpjggjbaaGreatDoor
namespace Nn
theorem bl_nil (x : List UInt8) : Op.bytesLess x [] = false := by cases x <;> rfl
theorem bl_cons (a b : UInt8) (x y : List UInt8) : Op.bytesLess (a :: x) (b :: y) = (decide (a < b) || (a == b && Op.bytesLess x y)) := rfl
theorem bl_irr : ∀ x : List UInt8, Op.bytesLess x x = false
  | [] => rfl
  | a :: x => by
    rw [bl_cons, bl_irr x, decide_eq_false (by rw [UInt8.lt_iff_toNat_lt]; omega)]
    simp
theorem bl_tri : ∀ x y : List UInt8, x ≠ y → Op.bytesLess x y = !Op.bytesLess y x
  | [], [], h => absurd rfl h
  | [], b :: y, _ => by rw [bl_nil]; rfl
  | a :: x, [], _ => by rw [bl_nil]; rfl
  | a :: x, b :: y, h => by
    rw [bl_cons, bl_cons]
    by_cases e : a = b
    · subst e
      have hne : x ≠ y := fun q => h (by rw [q])
      rw [decide_eq_false (by rw [UInt8.lt_iff_toNat_lt]; omega), bl_tri x y hne]
      simp
    · have hn : a.toNat ≠ b.toNat := fun q => e (UInt8.toNat_inj.1 q)
      rw [show (a == b) = false from beq_eq_false_iff_ne.2 e, show (b == a) = false from beq_eq_false_iff_ne.2 (Ne.symm e)]
      simp only [Bool.false_and, Bool.or_false]
      by_cases c : a < b
      · have : ¬ b < a := by rw [UInt8.lt_iff_toNat_lt] at *; omega
        rw [decide_eq_true c, decide_eq_false this]; rfl
      · have : b < a := by rw [UInt8.lt_iff_toNat_lt] at *; omega
        rw [decide_eq_false c, decide_eq_true this]; rfl
theorem bl_trans : ∀ x y z : List UInt8, Op.bytesLess x y = true → Op.bytesLess y z = true → Op.bytesLess x z = true
  | _, [], _, h, _ => by rw [bl_nil] at h; cases h
  | _, _ :: _, [], _, h => by rw [bl_nil] at h; cases h
  | [], _ :: _, _ :: _, _, _ => rfl
  | a :: x, b :: y, c :: z, h1, h2 => by
    rw [bl_cons, Bool.or_eq_true, decide_eq_true_eq, Bool.and_eq_true, beq_iff_eq] at *
    rcases h1 with h1 | ⟨rfl, h1⟩
    · rcases h2 with h2 | ⟨rfl, _⟩
      · left; rw [UInt8.lt_iff_toNat_lt] at *; omega
      · exact .inl h1
    · rcases h2 with h2 | ⟨rfl, h2⟩
      · exact .inl h2
      · exact .inr ⟨rfl, bl_trans x y z h1 h2⟩
def ahead : List Name → List Name → Bool
  | _, [] => false
  | [], _ :: _ => true
  | s :: l, t :: m => if s = t then ahead l m else Op.bytesLess s t
theorem ahead_irr : ∀ l : List Name, ahead l l = false
  | [] => rfl
  | s :: l => by rw [ahead, if_pos rfl]; exact ahead_irr l
theorem ahead_tri : ∀ l m : List Name, l ≠ m → ahead l m = !ahead m l
  | [], [], h => absurd rfl h
  | [], _ :: _, _ => rfl
  | _ :: _, [], _ => rfl
  | s :: l, t :: m, h => by
    rw [ahead, ahead]
    by_cases e : s = t
    · subst e
      rw [if_pos rfl, if_pos rfl]
      exact ahead_tri l m fun q => h (by rw [q])
    · rw [if_neg e, if_neg (Ne.symm e)]
      exact bl_tri s t e
theorem ahead_trans : ∀ l m n : List Name, ahead l m = true → ahead m n = true → ahead l n = true
  | l, [], _, h, _ => by cases l <;> cases h
  | _, m, [], _, h => by cases m <;> cases h
  | [], _ :: _, _ :: _, _, _ => rfl
  | s :: l, t :: m, u :: n, h1, h2 => by
    rw [ahead] at *
    by_cases e : s = t
    · subst e
      rw [if_pos rfl] at h1
      by_cases f : s = u
      · subst f
        rw [if_pos rfl] at h2 ⊢
        exact ahead_trans l m n h1 h2
      · rw [if_neg f] at h2 ⊢; exact h2
    · rw [if_neg e] at h1
      by_cases f : t = u
      · subst f
        rw [if_neg e]; exact h1
      · rw [if_neg f] at h2
        have h3 := bl_trans _ _ _ h1 h2
        by_cases g : s = u
        · subst g; rw [bl_irr] at h3; cases h3
        · rw [if_neg g]; exact h3
theorem ahead_front : ∀ (l r : List Name), r ≠ [] → ahead l (l ++ r) = true
  | [], r, h => by
    cases r with
    | nil => exact absurd rfl h
    | cons _ _ => rfl
  | s :: l, r, h => by rw [List.cons_append, ahead, if_pos rfl]; exact ahead_front l r h
def less (a b : List UInt8) : Bool × Int :=
  if (split a).2 ≠ 0 then (false, (split a).2) else if (split b).2 ≠ 0 then (false, (split b).2) else (ahead (split a).1 (split b).1, 0)
end Nn
end Go.Proofs.YthpcbbkpjggjbaaGreatDoor
namespace Go.Proofs.YthpcbbkpjggjbaaGreatDoor
namespace Wk
open Nn (Name)
theorem ahead_app : ∀ (p a b : List Name), Nn.ahead (p ++ a) (p ++ b) = Nn.ahead a b
  | [], _, _ => rfl
  | s :: p, a, b => by rw [List.cons_append, List.cons_append, Nn.ahead, if_pos rfl]; exact ahead_app p a b
theorem ahead_other {s t : Name} (a b : List Name) (h : s ≠ t) : Nn.ahead (s :: a) (t :: b) = Op.bytesLess s t := by rw [Nn.ahead, if_neg h]
theorem sorted_eq {α : Type} {R : α → α → Prop} (hR : ∀ a b, R a b → ¬ R b a) : ∀ {x y : List α}, x.Pairwise R → y.Pairwise R → (∀ a, a ∈ x ↔ a ∈ y) → x = y
  | [], [], _, _, _ => rfl
  | [], b :: y, _, _, h => absurd ((h b).2 List.mem_cons_self) List.not_mem_nil
  | a :: x, [], _, _, h => absurd ((h a).1 List.mem_cons_self) List.not_mem_nil
  | a :: x, b :: y, hx, hy, h => by
    obtain ⟨hx1, hx2⟩ := List.pairwise_cons.1 hx
    obtain ⟨hy1, hy2⟩ := List.pairwise_cons.1 hy
    have irr : ∀ c, ¬ R c c := fun c q => hR c c q q
    have e : a = b := by
      rcases List.mem_cons.1 ((h a).1 List.mem_cons_self) with q | q
      · exact q
      · rcases List.mem_cons.1 ((h b).2 List.mem_cons_self) with r | r
        · exact r.symm
        · exact absurd (hx1 b r) (hR b a (hy1 a q))
    subst e
    congr 1
    refine sorted_eq hR hx2 hy2 fun c => ⟨fun hc => ?_, fun hc => ?_⟩
    · rcases List.mem_cons.1 ((h c).1 (List.mem_cons_of_mem _ hc)) with q | q
      · subst q; exact absurd (hx1 c hc) (irr c)
      · exact q
    · rcases List.mem_cons.1 ((h c).2 (List.mem_cons_of_mem _ hc)) with q | q
      · subst q; exact absurd (hy1 c hc) (irr c)
      · exact q
section
variable {α : Type} (pt : α → List Name) (dir : α → Bool) (W : List α)
def kids (p : List Name) : List α := W.filter fun x => decide (pt x ≠ [] ∧ (pt x).dropLast = p)
def dfs : Nat → List Name → List α
  | 0, _ => []
  | k + 1, p => (kids pt W p).flatMap fun x => x :: (if dir x then dfs k (pt x) else [])
def Sorted : Prop := W.Pairwise fun a b => Nn.ahead (pt a) (pt b) = true
def Closed : Prop := ∀ x ∈ W, pt x ≠ [] ∧ ((pt x).dropLast = [] ∨ ∃ y ∈ W, pt y = (pt x).dropLast ∧ dir y = true)
variable {pt dir W}
theorem mem_kids {p : List Name} {x : α} : x ∈ kids pt W p ↔ x ∈ W ∧ ∃ s, pt x = p ++ [s] := by
  unfold kids
  rw [List.mem_filter, decide_eq_true_eq]
  refine and_congr_right fun _ => ⟨fun ⟨h1, h2⟩ => ⟨(pt x).getLast h1, ?_⟩, fun ⟨s, e⟩ => ?_⟩
  · rw [← h2, List.dropLast_concat_getLast]
  · rw [e]; simp
theorem asym (a b : α) (h : Nn.ahead (pt a) (pt b) = true) : ¬ Nn.ahead (pt b) (pt a) = true := fun q => by
  have := Nn.ahead_trans _ _ _ h q
  rw [Nn.ahead_irr] at this
  cases this
theorem Closed.anc (h : Closed pt dir W) : ∀ (n : Nat) (r q : List Name) (x : α), r.length = n → x ∈ W → pt x = q ++ r → q ≠ [] → r ≠ [] → ∃ y ∈ W, pt y = q ∧ dir y = true
  | 0, r, q, x, hn, _, _, _, hr => absurd (List.length_eq_zero_iff.1 hn) hr
  | n + 1, r, q, x, hn, hx, e, hq, hr => by
    obtain ⟨_, h2⟩ := h x hx
    have hd : (pt x).dropLast = q ++ r.dropLast := by rw [e, List.dropLast_append_of_ne_nil hr]
    rcases h2 with h2 | ⟨y, hy, ey, hdir⟩
    · rw [hd] at h2
      exact absurd (List.append_eq_nil_iff.1 h2).1 hq
    · by_cases hr1 : r.dropLast = []
      · exact ⟨y, hy, by rw [ey, hd, hr1, List.append_nil], hdir⟩
      · exact Closed.anc h n r.dropLast q y (by rw [List.length_dropLast]; omega) hy (by rw [ey, hd]) hq hr1
theorem mem_dfs (hc : Closed pt dir W) : ∀ (k : Nat) (p : List Name), (∀ x ∈ W, (pt x).length ≤ p.length + k) → ∀ x, x ∈ dfs pt dir W k p ↔ x ∈ W ∧ ∃ r, r ≠ [] ∧ pt x = p ++ r
  | 0, p, hk, x => by
    refine ⟨fun h => absurd h List.not_mem_nil, fun ⟨hx, r, hr, e⟩ => ?_⟩
    have := hk x hx
    rw [e, List.length_append] at this
    exact absurd (List.length_eq_zero_iff.1 (by omega)) hr
  | k + 1, p, hk, x => by
    rw [dfs, List.mem_flatMap]
    constructor
    · rintro ⟨y, hy, hx⟩
      obtain ⟨hyW, s, es⟩ := mem_kids.1 hy
      rcases List.mem_cons.1 hx with rfl | hx
      · exact ⟨hyW, [s], by simp, es⟩
      · split at hx
        · obtain ⟨hxW, r, hr, er⟩ := (mem_dfs hc k (pt y) (fun z hz => by have := hk z hz; rw [es, List.length_append, List.length_singleton]; omega) x).1 hx
          exact ⟨hxW, s :: r, by simp, by rw [er, es, List.append_assoc]; rfl⟩
        · exact absurd hx List.not_mem_nil
    · rintro ⟨hxW, r, hr, er⟩
      cases r with
      | nil => exact absurd rfl hr
      | cons s r =>
        by_cases hr2 : r = []
        · subst hr2
          exact ⟨x, mem_kids.2 ⟨hxW, s, er⟩, List.mem_cons_self⟩
        · obtain ⟨y, hyW, ey, hdy⟩ := hc.anc r.length r (p ++ [s]) x rfl hxW (by rw [er, List.append_assoc]; rfl) (by simp) hr2
          refine ⟨y, mem_kids.2 ⟨hyW, s, ey⟩, List.mem_cons_of_mem _ ?_⟩
          rw [if_pos hdy]
          exact (mem_dfs hc k (pt y) (fun z hz => by have := hk z hz; rw [ey, List.length_append, List.length_singleton]; omega) x).2 ⟨hxW, r, hr2, by rw [er, ey, List.append_assoc]; rfl⟩
theorem kids_sorted (hs : Sorted pt W) (p : List Name) : Sorted pt (kids pt W p) := List.Pairwise.filter _ hs
theorem dfs_beneath : ∀ (k : Nat) (p : List Name) (x : α), x ∈ dfs pt dir W k p → ∃ r, r ≠ [] ∧ pt x = p ++ r
  | 0, _, _, h => absurd h List.not_mem_nil
  | k + 1, p, x, h => by
    rw [dfs, List.mem_flatMap] at h
    obtain ⟨y, hy, hx⟩ := h
    obtain ⟨_, s, es⟩ := mem_kids.1 hy
    rcases List.mem_cons.1 hx with rfl | hx
    · exact ⟨[s], by simp, es⟩
    · split at hx
      · obtain ⟨r, _, er⟩ := dfs_beneath k (pt y) x hx
        exact ⟨s :: r, by simp, by rw [er, es, List.append_assoc]; rfl⟩
      · exact absurd hx List.not_mem_nil
theorem dfs_sorted (hs : Sorted pt W) : ∀ (k : Nat) (p : List Name), Sorted pt (dfs pt dir W k p)
  | 0, _ => List.Pairwise.nil
  | k + 1, p => by
    unfold Sorted
    rw [dfs, List.pairwise_flatMap]
    refine ⟨fun x hx => ?_, ?_⟩
    · refine List.pairwise_cons.2 ⟨fun y hy => ?_, ?_⟩
      · split at hy
        · obtain ⟨r, hr, er⟩ := dfs_beneath k (pt x) y hy
          rw [er]; exact Nn.ahead_front _ _ hr
        · exact absurd hy List.not_mem_nil
      · split
        · exact dfs_sorted hs k (pt x)
        · exact List.Pairwise.nil
    · refine List.Pairwise.imp_of_mem ?_ (kids_sorted hs p)
      intro a b ha hb hab u hu v hv
      obtain ⟨_, s, es⟩ := mem_kids.1 ha
      obtain ⟨_, t, et⟩ := mem_kids.1 hb
      have hst : s ≠ t := fun q => by
        rw [es, et, q, Nn.ahead_irr] at hab
        cases hab
      have hl : Op.bytesLess s t = true := by
        rw [es, et, ahead_app, ahead_other _ _ hst] at hab
        exact hab
      have block : ∀ {c w : α}, w ∈ c :: (if dir c then dfs pt dir W k (pt c) else []) → ∃ r, pt w = pt c ++ r := fun {c w} h => by
        rcases List.mem_cons.1 h with rfl | h
        · exact ⟨[], by simp⟩
        · split at h
          · obtain ⟨r, _, er⟩ := dfs_beneath k (pt c) w h
            exact ⟨r, er⟩
          · exact absurd h List.not_mem_nil
      obtain ⟨ru, eu⟩ := block hu
      obtain ⟨rv, ev⟩ := block hv
      rw [eu, ev, es, et, List.append_assoc, List.append_assoc, ahead_app]
      show Nn.ahead (s :: ru) (t :: rv) = true
      rw [ahead_other _ _ hst]
      exact hl
theorem dfs_all (hs : Sorted pt W) (hc : Closed pt dir W) (k : Nat) (hk : ∀ x ∈ W, (pt x).length ≤ k) : dfs pt dir W k [] = W := by
  refine sorted_eq (R := fun a b => Nn.ahead (pt a) (pt b) = true) asym (dfs_sorted hs k []) hs fun x => ?_
  rw [mem_dfs hc k [] (fun z hz => by have := hk z hz; simpa using this)]
  exact ⟨fun h => h.1, fun h => ⟨h, pt x, (hc x h).1, by simp⟩⟩
end
end Wk
end Go.Proofs.YthpcbbkpjggjbaaGreatDoor
namespace Go.Proofs.YthpcbbkpjggjbaaGreatDoor
namespace Wk
open Nn (Name)
abbrev Bs := List UInt8
structure It where
  path : Bs
  kind : Int
  mode : Int
  time : Int
  bytes : Bs
def It.nms (x : It) : List Name := (Nn.split x.path).1
def It.dir (x : It) : Bool := decide (x.kind = 2)
def iErr (x : It) : Int :=
  if (Nn.split x.path).2 ≠ 0 then (Nn.split x.path).2
  else if x.nms = [] then 8
  else if x.kind ≠ 1 ∧ x.kind ≠ 2 ∧ x.kind ≠ 3 then 5
  else if x.mode < 0 ∨ 511 < x.mode then 1
  else if (x.kind = 1 ∧ 4096 < x.bytes.length) ∨ (x.kind = 2 ∧ x.bytes ≠ []) ∨ (x.kind = 3 ∧ 1024 < x.bytes.length) then 2
  else if x.kind = 3 ∧ x.bytes = [] then 4 else 0
structure Ok1 (x : It) : Prop where
  spl : (Nn.split x.path).2 = 0
  ne : x.nms ≠ []
  kind : x.kind = 1 ∨ x.kind = 2 ∨ x.kind = 3
  mode : 0 ≤ x.mode ∧ x.mode ≤ 511
  file : x.kind = 1 → x.bytes.length ≤ 4096
  nodir : x.kind = 2 → x.bytes = []
  link : x.kind = 3 → x.bytes.length ≤ 1024 ∧ x.bytes ≠ []
theorem iErr_ok {x : It} (h : iErr x = 0) : Ok1 x := by
  unfold iErr at h
  split at h
  · rename_i q; exact absurd h q
  rename_i q0
  split at h
  · cases h
  rename_i q1
  split at h
  · cases h
  rename_i q2
  split at h
  · cases h
  rename_i q3
  split at h
  · cases h
  rename_i q4
  split at h
  · cases h
  rename_i q5
  refine ⟨Decidable.not_not.mp q0, q1, by omega, by omega, fun k => ?_, fun k => ?_, fun k => ⟨?_, fun e => q5 ⟨k, e⟩⟩⟩
  · exact Nat.le_of_not_lt fun l => q4 (.inl ⟨k, l⟩)
  · exact Decidable.not_not.mp fun l => q4 (.inr (.inl ⟨k, l⟩))
  · exact Nat.le_of_not_lt fun l => q4 (.inr (.inr ⟨k, l⟩))
def up (x : It) : Bs := Nn.joinB x.nms.dropLast
def late (done : List It) (x : It) : Bool := match done.getLast? with | none => false | some y => !(Nn.less y.path x.path).1
def lies (done : List It) (x : It) : Bool := decide (up x = [47]) || done.any fun y => decide (y.path = up x) && y.dir
def wErrF : List It → List It → Int
  | _, [] => 0
  | done, x :: r => if iErr x ≠ 0 then iErr x else if late done x = true then 4 else if lies done x = false then 9 else wErrF (done ++ [x]) r
def world (w : List It) : Int := if 100 < w.length then 2 else wErrF [] w
theorem split_eq {x : It} (h : Ok1 x) : Nn.split x.path = (x.nms, 0) := Prod.ext rfl h.spl
theorem errs_nms {x : It} (h : Ok1 x) : Nn.errs x.nms = 0 := (Nn.join_ok (Nn.split_join (split_eq h))).1
theorem path_eq {x : It} (h : Ok1 x) : x.path = Nn.joinB x.nms := (Nn.join_ok (Nn.split_join (split_eq h))).2
theorem errsF_front : ∀ (l r : List Name) (i : Nat), Nn.errsF i (l ++ r) = 0 → Nn.errsF i l = 0
  | [], _, _, _ => rfl
  | s :: l, r, i, h => by
    rw [List.cons_append, Nn.errsF] at h
    rw [Nn.errsF]
    split at h
    · rename_i q; rw [if_pos q]; exact h
    · rename_i q
      rw [if_neg q]
      split at h
      · rename_i p; rw [if_pos p]; exact h
      · rename_i p
        rw [if_neg p]
        exact errsF_front l r (i + 1) h
theorem errs_up {x : It} (h : Ok1 x) : Nn.errs x.nms.dropLast = 0 := by
  have := errs_nms h
  rw [← List.dropLast_concat_getLast h.ne] at this
  exact errsF_front _ _ 0 this
theorem joinB_root {l : List Name} (h : Nn.errs l = 0) (e : Nn.joinB l = [47]) : l = [] := by
  have hs : Nn.split (Nn.joinB l) = (l, 0) := Nn.join_split (by unfold Nn.join; rw [if_neg (by simpa using h)])
  rw [e] at hs
  have : Nn.split [47] = ([], 0) := rfl
  rw [this] at hs
  exact (congrArg Prod.fst hs).symm
theorem split_joinB {l : List Name} (h : Nn.errs l = 0) : Nn.split (Nn.joinB l) = (l, 0) := Nn.join_split (by unfold Nn.join; rw [if_neg (by simpa using h)])
structure Right (w : List It) : Prop where
  each : ∀ x ∈ w, iErr x = 0
  sorted : Sorted It.nms w
  closed : Closed It.nms It.dir w
theorem right_more : ∀ (r done : List It), Right done → wErrF done r = 0 → Right (done ++ r)
  | [], done, h, _ => by rw [List.append_nil]; exact h
  | x :: r, done, h, he => by
    rw [wErrF] at he
    split at he
    · rename_i q; exact absurd he q
    rename_i q0
    split at he
    · cases he
    rename_i q1
    split at he
    · cases he
    rename_i q2
    have hx := iErr_ok (Decidable.not_not.mp q0)
    have hlast : ∀ y ∈ done, Nn.ahead y.nms x.nms = true := by
      cases hd : done.getLast? with
      | none =>
        rw [List.getLast?_eq_none_iff.1 hd]
        exact fun y hy => absurd hy List.not_mem_nil
      | some z =>
        have hz : Nn.ahead z.nms x.nms = true := by
          have hzl : z ∈ done := List.mem_of_getLast? hd
          have hzo := iErr_ok (h.each z hzl)
          rw [late, hd] at q1
          have q1 : (Nn.less z.path x.path).1 = true := by simpa using q1
          rw [Nn.less, if_neg (by simpa using hzo.spl), if_neg (by simpa using hx.spl)] at q1
          exact q1
        intro y hy
        obtain ⟨pre, rfl⟩ := List.getLast?_eq_some_iff.1 hd
        rcases List.mem_append.1 hy with k | k
        · exact Nn.ahead_trans _ _ _ ((List.pairwise_append.1 h.sorted).2.2 y k z List.mem_cons_self) hz
        · rw [List.mem_singleton.1 k]; exact hz
    have h1 : Right (done ++ [x]) := by
      refine ⟨fun y hy => ?_, ?_, fun y hy => ?_⟩
      · rcases List.mem_append.1 hy with k | k
        · exact h.each y k
        · rw [List.mem_singleton.1 k]; exact Decidable.not_not.mp q0
      · unfold Sorted
        rw [List.pairwise_append]
        exact ⟨h.sorted, List.pairwise_singleton _ _, fun a ha b hb => by rw [List.mem_singleton.1 hb]; exact hlast a ha⟩
      · rcases List.mem_append.1 hy with k | k
        · obtain ⟨c1, c2⟩ := h.closed y k
          refine ⟨c1, c2.imp id fun ⟨z, hz, e⟩ => ⟨z, List.mem_append_left _ hz, e⟩⟩
        · rw [List.mem_singleton.1 k]
          refine ⟨hx.ne, ?_⟩
          have hl : lies done x = true := by simpa using q2
          rw [lies, Bool.or_eq_true, decide_eq_true_eq, List.any_eq_true] at hl
          rcases hl with hl | ⟨z, hz, e⟩
          · exact .inl (joinB_root (errs_up hx) hl)
          · rw [Bool.and_eq_true, decide_eq_true_eq] at e
            refine .inr ⟨z, List.mem_append_left _ hz, ?_, e.2⟩
            unfold It.nms
            rw [e.1, up, split_joinB (errs_up hx)]
            rfl
    have := right_more r (done ++ [x]) h1 he
    rwa [List.append_assoc] at this
theorem world_ok {w : List It} (h : world w = 0) : w.length ≤ 100 ∧ Right w := by
  unfold world at h
  split at h
  · cases h
  · exact ⟨by omega, right_more w [] ⟨fun x hx => absurd hx List.not_mem_nil, List.Pairwise.nil, fun x hx => absurd hx List.not_mem_nil⟩ h⟩
theorem errsF_few : ∀ (l : List Name) (i : Nat), Nn.errsF i l = 0 → i ≤ 8 → i + l.length ≤ 8
  | [], i, _, h => by simpa using h
  | s :: l, i, h, hi => by
    rw [Nn.errsF] at h
    split at h
    · rename_i q; first | (cases h) | exact absurd h q
    · rename_i q
      split at h
      · rename_i p; first | (cases h) | exact absurd h p
      · have := errsF_few l (i + 1) h (by omega)
        rw [List.length_cons]
        omega
end Wk
end Go.Proofs.YthpcbbkpjggjbaaGreatDoor
namespace Go.Proofs.YthpcbbkpjggjbaaGreatDoor
namespace Nm
theorem head_tn (t : Nat) (l m : List UInt8) (h : l ≠ []) : (tn t l ++ m).headD 0 ^^^ UInt8.ofNat t = l.headD 0 := by
  cases l with
  | nil => exact absurd rfl h
  | cons b l => simp [tn, UInt8.xor_assoc]
theorem read_dig (n t : Nat) (m : List UInt8) (h : n < 256 ^ 8) : readN (tn t (dig n) ++ m) (dig n).length t = (n, 0) := by
  have hl := dig_length_le n
  have e : (tn t (dig n) ++ m).take (dig n).length = tn t (dig n) := by
    rw [List.take_append_of_le_length (by rw [tn_length]; exact Nat.le_refl _), List.take_of_length_le (by rw [tn_length]; exact Nat.le_refl _)]
  rw [readN, if_neg (by omega), if_neg (by rw [List.length_append, tn_length]; omega), if_neg ?_, e, tn_tn, val_dig n h]
  rintro ⟨h1, h2⟩
  have hne : dig n ≠ [] := by intro e; rw [e] at h1; simp at h1
  rw [head_tn t _ m hne] at h2
  have hn : n ≠ 0 := by intro e; subst e; exact hne rfl
  exact dig_head n hn h h2
theorem get_put (n : Nat) (m : List UInt8) (h : n < 256 ^ 8) : getN (put n ++ m) = (n, (put n).length, 0) := by
  have hl := dig_length_le n
  have hr := read_dig n 0 m h
  rw [tn_zero] at hr
  have hc : (UInt8.ofNat (dig n).length).toNat = (dig n).length := by rw [UInt8.toNat_ofNat']; omega
  rw [getN, if_neg (by simp [put])]
  simp only [put, List.cons_append, List.headD_cons, List.tail_cons, hc, hr]
  simp [Nat.add_comm]
theorem getI_putI (i : Int) (m : List UInt8) (h0 : -9223372036854775808 ≤ i) (h1 : i ≤ 9223372036854775807) : getI (putI i ++ m) = (i, (putI i).length, 0) := by
  by_cases hi : i < 0
  · have hl := dig_length_le (-1 - i).toNat
    have hr := read_dig (-1 - i).toNat 255 m (by omega)
    have hc : (UInt8.ofNat (127 - (dig (-1 - i).toNat).length)).toNat = 127 - (dig (-1 - i).toNat).length := by rw [UInt8.toNat_ofNat']; omega
    have hk : 127 - (127 - (dig (-1 - i).toNat).length) = (dig (-1 - i).toNat).length := by omega
    rw [putI, if_pos hi, getI, if_neg (by simp)]
    simp only [List.cons_append, List.headD_cons, List.tail_cons, hc, hk, hr]
    rw [if_neg (by omega), if_pos trivial, if_neg (by omega), List.length_cons, tn_length]
    simp only [Prod.mk.injEq]
    exact ⟨by omega, by omega, trivial⟩
  · have hl := dig_length_le i.toNat
    have hr := read_dig i.toNat 0 m (by omega)
    rw [tn_zero] at hr
    have hc : (UInt8.ofNat (128 + (dig i.toNat).length)).toNat = 128 + (dig i.toNat).length := by rw [UInt8.toNat_ofNat']; omega
    have hk : 128 + (dig i.toNat).length - 128 = (dig i.toNat).length := by omega
    rw [putI, if_neg hi, getI, if_neg (by simp)]
    simp only [List.cons_append, List.headD_cons, List.tail_cons, hc, hk, hr]
    rw [if_pos (by omega), if_pos trivial, if_neg (by omega), List.length_cons]
    simp only [Prod.mk.injEq]
    exact ⟨by omega, by omega, trivial⟩
theorem putI_length (i : Int) : (putI i).length ≤ 9 := by
  unfold putI
  split
  · have := dig_length_le (-1 - i).toNat; rw [List.length_cons, tn_length]; omega
  · have := dig_length_le i.toNat; rw [List.length_cons]; omega
theorem scan_putT (l : List UInt8) : ∀ (acc m : List UInt8) (p : Nat), acc.length + l.length ≤ 1024 → scanT (esc l ++ ([0, 0] ++ m)) acc p = (acc ++ l, p + (esc l).length + 2, 0) := by
  induction l with
  | nil => intro acc m p h; rw [show esc [] ++ ([0, 0] ++ m) = 0 :: 0 :: m from rfl, scan_zeros]; simp [esc]
  | cons b l ih =>
    intro acc m p h
    rw [List.length_cons] at h
    by_cases hb : b = 0
    · subst hb
      rw [show esc (0 :: l) ++ ([0, 0] ++ m) = 0 :: 255 :: (esc l ++ ([0, 0] ++ m)) from rfl, scan_esc _ _ _ (by omega), ih _ _ _ (by simp; omega)]
      simp [esc]; omega
    · rw [show esc (b :: l) ++ ([0, 0] ++ m) = b :: (esc l ++ ([0, 0] ++ m)) from by simp [esc, hb], scan_byte _ _ _ _ hb (by omega), ih _ _ _ (by simp; omega)]
      simp [esc, hb]; omega
theorem putT_length (l : List UInt8) : (putT l).length ≤ 2 * l.length + 2 := by
  have := esc_length l
  rw [putT, List.length_append]; simp; omega
theorem getT_putT (l m : List UInt8) (h : l.length ≤ 1024) : getT (putT l ++ m) = (l, (putT l).length, 0) := by
  have h1 := scan_putT l [] m 0 (by simpa using h)
  rw [getT, putT, List.append_assoc, h1]
  simp
end Nm
end Go.Proofs.YthpcbbkpjggjbaaGreatDoor
namespace Go.Proofs.YthpcbbkpjggjbaaGreatDoor
namespace Mx
def xs (k z : Nat) : Nat := z ^^^ (z >>> k)
def prod (a b : Nat) : Nat := a * b % 18446744073709551616
def step (x b : Nat) : Nat := xs 32 (prod (xs 29 (prod (x ^^^ b) 11400714819323198485)) 13787848793156543929)
theorem xor_lt {a b : Nat} (ha : a < 18446744073709551616) (hb : b < 18446744073709551616) : a ^^^ b < 18446744073709551616 :=
  Nat.xor_lt_two_pow (n := 64) ha hb
theorem shr_lt {a : Nat} (k : Nat) (ha : a < 18446744073709551616) : a >>> k < 18446744073709551616 := by
  rw [Nat.shiftRight_eq_div_pow]
  exact Nat.lt_of_le_of_lt (Nat.div_le_self _ _) ha
theorem xs_lt {k z : Nat} (h : z < 18446744073709551616) : xs k z < 18446744073709551616 := xor_lt h (shr_lt k h)
theorem mod_lt' (a : Nat) : a % 18446744073709551616 < 18446744073709551616 := Nat.mod_lt _ (by omega)
theorem prod_lt (a b : Nat) : prod a b < 18446744073709551616 := mod_lt' _
theorem step_lt (x b : Nat) : step x b < 18446744073709551616 := xs_lt (mod_lt' _)
end Mx
end Go.Proofs.YthpcbbkpjggjbaaGreatDoor
namespace Go.Proofs.YthpcbbkpjggjbaaGreatDoor
namespace Mx
def byteAt (l : List UInt8) (k : Nat) : Nat := (l.getD k 0).toNat
def hi (l : List UInt8) (i : Nat) : Nat → Nat
  | 0 => 0
  | c + 1 => 256 * hi l i c + byteAt l (8 * i + (7 - c))
def blk (l : List UInt8) (i : Nat) : Nat := hi l i 8
def cut (w y : Nat) : Nat := y % 2 ^ w
def chain (w : Nat) (l : List UInt8) : Nat → Nat
  | 0 => 0
  | i + 1 => cut w (step (chain w l i) (blk l i))
def narrow (w : Nat) (l : List UInt8) : Nat := cut w (step (chain w l ((l.length + 7) / 8)) l.length)
theorem byteAt_lt (l : List UInt8) (k : Nat) : byteAt l k < 256 := UInt8.toNat_lt _
theorem hi_lt (l : List UInt8) (i : Nat) : ∀ c, hi l i c < 256 ^ c
  | 0 => by simp [hi]
  | c + 1 => by
    have h1 := hi_lt l i c
    have h2 := byteAt_lt l (8 * i + (7 - c))
    rw [hi, Nat.pow_succ]
    omega
theorem blk_lt (l : List UInt8) (i : Nat) : blk l i < 18446744073709551616 := hi_lt l i 8
theorem cut_le (w y : Nat) : cut w y ≤ y := Nat.mod_le _ _
theorem cut_lt {w y : Nat} (h : y < 18446744073709551616) : cut w y < 18446744073709551616 := Nat.lt_of_le_of_lt (cut_le w y) h
theorem chain_lt (w : Nat) (l : List UInt8) (i : Nat) : chain w l i < 18446744073709551616 := by
  cases i with
  | zero => simp [chain]
  | succ i => exact cut_lt (step_lt _ _)
def lo (l : List UInt8) (i : Nat) : Nat → Nat
  | 0 => 0
  | c + 1 => lo l i c + byteAt l (8 * i + c) * 256 ^ c
theorem byteAt_past {l : List UInt8} {k : Nat} (h : l.length ≤ k) : byteAt l k = 0 := by
  unfold byteAt
  rw [List.getD_eq_getElem?_getD, List.getElem?_eq_none h]; rfl
end Mx
end Go.Proofs.YthpcbbkpjggjbaaGreatDoor
namespace Go.Proofs.YthpcbbkpjggjbaaGreatDoor
open Go.RowKit
namespace Mx
def blkAt (l : List UInt8) (i : Nat) : Nat := if i < (l.length + 7) / 8 then blk l i else l.length
def along (w : Nat) (l : List UInt8) : Nat → Nat
  | 0 => 0
  | i + 1 => cut w (step (along w l i) (blkAt l i))
theorem along_chain (w : Nat) (l : List UInt8) (i : Nat) (h : i ≤ (l.length + 7) / 8) : along w l i = chain w l i := by
  induction i with
  | zero => rfl
  | succ i ih => rw [along, chain, ih (by omega), blkAt, if_pos (by omega)]
theorem along_narrow (w : Nat) (l : List UInt8) : along w l ((l.length + 7) / 8 + 1) = narrow w l := by
  rw [along, narrow, along_chain w l _ (Nat.le_refl _), blkAt, if_neg (by omega)]
theorem byte_of_blk (l l' : List UInt8) (i : Nat) (h : blk l i = blk l' i) : ∀ j, j < 8 → byteAt l (8 * i + j) = byteAt l' (8 * i + j) := by
  have key : ∀ c, c ≤ 8 → hi l i c = hi l' i c → ∀ j, 8 - c ≤ j → j < 8 → byteAt l (8 * i + j) = byteAt l' (8 * i + j) := by
    intro c
    induction c with
    | zero => intro _ _ j h1 h2; omega
    | succ c ih =>
      intro hc he j h1 h2
      rw [hi, hi] at he
      have b1 := byteAt_lt l (8 * i + (7 - c))
      have b2 := byteAt_lt l' (8 * i + (7 - c))
      by_cases hj : j = 7 - c
      · subst hj; omega
      · exact ih (by omega) (by omega) j (by omega) h2
  intro j hj
  exact key 8 (Nat.le_refl _) h j (by omega) hj
theorem same_of_bytes (l l' : List UInt8) (hl : l.length = l'.length) (h : ∀ k, byteAt l k = byteAt l' k) : l = l' := by
  apply List.ext_getElem hl
  intro k h1 h2
  have := h k
  rw [byteAt, byteAt, List.getD_eq_getElem?_getD, List.getD_eq_getElem?_getD, List.getElem?_eq_getElem h1, List.getElem?_eq_getElem h2] at this
  exact UInt8.toNat_inj.1 this
theorem md (w : Nat) (a b : List UInt8) (hs : narrow w a = narrow w b) (hne : a ≠ b) :
    ∃ i j, i < (a.length + 7) / 8 + 1 ∧ j < (b.length + 7) / 8 + 1 ∧ along w a (i + 1) = along w b (j + 1) ∧ (along w a i ≠ along w b j ∨ blkAt a i ≠ blkAt b j) := by
  refine Classical.byContradiction fun hno => hne ?_
  have key : ∀ i j, i < (a.length + 7) / 8 + 1 → j < (b.length + 7) / 8 + 1 → along w a (i + 1) = along w b (j + 1) → along w a i = along w b j ∧ blkAt a i = blkAt b j := by
    intro i j hi hj he
    refine Classical.byContradiction fun hc => hno ⟨i, j, hi, hj, he, ?_⟩
    by_cases h : along w a i = along w b j
    · exact .inr fun h' => hc ⟨h, h'⟩
    · exact .inl h
  have top := key ((a.length + 7) / 8) ((b.length + 7) / 8) (by omega) (by omega) (by rw [along_narrow, along_narrow, hs])
  have hlen : a.length = b.length := by
    have := top.2
    rwa [blkAt, blkAt, if_neg (by omega), if_neg (by omega)] at this
  have down : ∀ d, d ≤ (a.length + 7) / 8 → along w a ((a.length + 7) / 8 - d) = along w b ((a.length + 7) / 8 - d) ∧ (0 < d → blkAt a ((a.length + 7) / 8 - d) = blkAt b ((a.length + 7) / 8 - d)) := by
    intro d
    induction d with
    | zero => intro _; exact ⟨by have := top.1; rw [← hlen] at this; exact this, fun h => by omega⟩
    | succ d ih =>
      intro hd
      have h1 := (ih (by omega)).1
      have h2 := key ((a.length + 7) / 8 - (d + 1)) ((a.length + 7) / 8 - (d + 1)) (by omega) (by rw [← hlen]; omega) (by rw [show (a.length + 7) / 8 - (d + 1) + 1 = (a.length + 7) / 8 - d from by omega]; exact h1)
      exact ⟨h2.1, fun _ => h2.2⟩
  apply same_of_bytes a b hlen
  intro k
  by_cases hk : k < a.length
  · have hq := (down ((a.length + 7) / 8 - k / 8) (by omega)).2 (by omega)
    rw [show (a.length + 7) / 8 - ((a.length + 7) / 8 - k / 8) = k / 8 from by omega, blkAt, blkAt, if_pos (by omega), if_pos (by rw [← hlen]; omega)] at hq
    have := byte_of_blk a b (k / 8) hq (k % 8) (by omega)
    rwa [show 8 * (k / 8) + k % 8 = k from by omega] at this
  · rw [byteAt_past (by omega), byteAt_past (by omega)]
end Mx
end Go.Proofs.YthpcbbkpjggjbaaGreatDoor
namespace Go.Proofs.YthpcbbkpjggjbaaGreatDoor
namespace Pk
abbrev Bs := List UInt8
def dg (s : Bs) : Bs := Nm.low 8 (Mx.narrow 64 s)
theorem dg_length (s : Bs) : (dg s).length = 8 := Nm.low_length 8 _
abbrev Bl := Int × Bs
structure En where
  id : Bs
  kind : Int
  at_ : Int
  len : Int
def kOK (k : Int) : Prop := k = 1 ∨ k = 2 ∨ k = 3
def idB (k : Int) (s : Bs) : Bs := dg (UInt8.ofNat k.toNat :: s)
def bid (b : Bl) : Bs := idB b.1 b.2
theorem bid_length (b : Bl) : (bid b).length = 8 := dg_length _
def bErr (b : Bl) : Int := if b.1 = 1 ∨ b.1 = 2 ∨ b.1 = 3 then (if 4096 < b.2.length then 2 else 0) else 5
theorem bErr_ok {b : Bl} (h : bErr b = 0) : kOK b.1 ∧ b.2.length ≤ 4096 := by
  unfold bErr at h
  split at h
  · rename_i hk
    split at h
    · omega
    · exact ⟨hk, by omega⟩
  · omega
def ents (body : Nat) : Nat → Bs → Nat → List En → List En × Int
  | 0, l, at_, out => if l ≠ [] ∨ at_ < body then ([], 4) else (out, 0)
  | m + 1, l, at_, out =>
    if l.length < 9 then ([], 3) else
    let k := (l.headD 0).toNat
    if ¬ (k = 1 ∨ k = 2 ∨ k = 3) then ([], 5) else
    let g := Nm.getN (l.drop 9)
    if g.2.2 ≠ 0 then ([], g.2.2) else
    if 4097 < g.1 then ([], 2) else
    if (l.drop 1).take 8 ∈ out.map En.id then ([], 4) else
    if body < at_ + g.1 then ([], 4) else
    ents body m (l.drop (9 + g.2.1)) (at_ + g.1) (out ++ [⟨(l.drop 1).take 8, k, at_, g.1⟩])
def lst (body : Nat) (l : Bs) : List En × Int :=
  let g := Nm.getN l
  if g.2.2 ≠ 0 then ([], g.2.2) else if 40 < g.1 then ([], 2) else ents body g.1 (l.drop g.2.1) 0 []
def lenL (s : Bs) : Nat := (s.getD (s.length - 10) 0).toNat + 256 * (s.getD (s.length - 9) 0).toNat
def ls (s : Bs) : List En × Int :=
  if s.length < 10 then ([], 3) else
  if dg (s.take (s.length - 8)) ≠ s.drop (s.length - 8) then ([], 6) else
  if s.length - 10 < lenL s then ([], 4) else
  lst (s.length - 10 - lenL s) ((s.take (s.length - 10)).drop (s.length - 10 - lenL s))
def one (op : Bs → Bs × Int) (s : Bs) (x : En) : Bl × Int :=
  if x.at_ < 0 ∨ x.len < 0 ∨ (s.length : Int) < x.len ∨ (s.length : Int) - x.len < x.at_ then ((0, []), 1) else
  if ¬ (x.kind = 1 ∨ x.kind = 2 ∨ x.kind = 3) then ((0, []), 5) else
  let o := op ((s.drop x.at_.toNat).take x.len.toNat)
  if o.2 ≠ 0 then ((0, []), o.2) else
  if idB x.kind o.1 ≠ x.id then ((0, []), 6) else ((x.kind, o.1), 0)
def ones (op : Bs → Bs × Int) (s : Bs) : List En → List Bl → List Bl × Int
  | [], out => (out, 0)
  | x :: r, out => if (one op s x).2 ≠ 0 then ([], (one op s x).2) else ones op s r (out ++ [(one op s x).1])
def split (op : Bs → Bs × Int) (s : Bs) : List Bl × Int := if (ls s).2 ≠ 0 then ([], (ls s).2) else ones op s (ls s).1 []
end Pk
end Go.Proofs.YthpcbbkpjggjbaaGreatDoor
namespace Go.Proofs.YthpcbbkpjggjbaaGreatDoor
namespace Nm
theorem read_some {l : List UInt8} {k t n : Nat} (h : readN l k t = (n, 0)) : k ≤ 8 ∧ k ≤ l.length ∧ n < 256 ^ 8 ∧ tn t (dig n) = l.take k ∧ (dig n).length = k := by
  unfold readN at h
  split at h
  · cases h
  split at h
  · cases h
  split at h
  · cases h
  rename_i h8 hl hd
  obtain ⟨rfl, _⟩ := Prod.mk.inj h
  have hlen : (l.take k).length = k := by rw [List.length_take]; omega
  have hv := val_lt (tn t (l.take k))
  rw [tn_length, hlen] at hv
  have hp : 256 ^ k ≤ 256 ^ 8 := Nat.pow_le_pow_right (by omega) (by omega)
  have hdv : dig (val (tn t (l.take k))) = tn t (l.take k) := by
    refine dig_val _ (by rw [tn_length, hlen]; omega) ?_
    by_cases hk : k = 0
    · left; subst hk; rfl
    · right
      intro e
      apply hd
      refine ⟨by omega, ?_⟩
      cases l with
      | nil => simp at hl; omega
      | cons b l =>
        cases k with
        | zero => exact absurd rfl hk
        | succ k => simpa [tn] using e
  exact ⟨by omega, by omega, by omega, by rw [hdv, tn_tn], by rw [hdv, tn_length, hlen]⟩
theorem cons_of {l : List UInt8} (h : l ≠ []) : ∃ b r, l = b :: r := by
  cases l with
  | nil => exact absurd rfl h
  | cons b r => exact ⟨b, r, rfl⟩
theorem getN_cons (b : UInt8) (r : List UInt8) : getN (b :: r) = if (readN r b.toNat 0).2 = 0 then ((readN r b.toNat 0).1, 1 + b.toNat, (0 : Int)) else ((0 : Nat), (0 : Nat), (readN r b.toNat 0).2) := by
  rw [getN, if_neg (by simp)]; rfl
theorem getI_hi (b : UInt8) (r : List UInt8) (h : 128 ≤ b.toNat) : getI (b :: r) = if (readN r (b.toNat - 128) 0).2 = 0 then (if 9223372036854775807 < (readN r (b.toNat - 128) 0).1 then ((0 : Int), (0 : Nat), (4 : Int)) else (((readN r (b.toNat - 128) 0).1 : Int), 1 + (b.toNat - 128), (0 : Int))) else ((0 : Int), (0 : Nat), (readN r (b.toNat - 128) 0).2) := by
  rw [getI, if_neg (by simp), if_pos (show 128 ≤ ((b :: r).headD 0).toNat from h)]; rfl
theorem getI_lo (b : UInt8) (r : List UInt8) (h : ¬ 128 ≤ b.toNat) : getI (b :: r) = if (readN r (127 - b.toNat) 255).2 = 0 then (if 9223372036854775807 < (readN r (127 - b.toNat) 255).1 then ((0 : Int), (0 : Nat), (4 : Int)) else (-1 - ((readN r (127 - b.toNat) 255).1 : Int), 1 + (127 - b.toNat), (0 : Int))) else ((0 : Int), (0 : Nat), (readN r (127 - b.toNat) 255).2) := by
  rw [getI, if_neg (by simp), if_neg (show ¬ 128 ≤ ((b :: r).headD 0).toNat from h)]; rfl
theorem get_one {l : List UInt8} {n k : Nat} (h : getN l = (n, k, 0)) : k ≤ l.length ∧ n < 256 ^ 8 ∧ put n = l.take k := by
  have hne : l ≠ [] := by intro e; subst e; cases h
  obtain ⟨b, r, rfl⟩ := cons_of hne
  rw [getN_cons] at h
  generalize hr : readN r b.toNat 0 = x at h
  obtain ⟨x1, x2⟩ := x
  simp only at h
  split at h
  · rename_i h0
    subst h0
    obtain ⟨rfl, h2⟩ := Prod.mk.inj h
    obtain ⟨rfl, _⟩ := Prod.mk.inj h2
    obtain ⟨g1, g2, g3, g4, g5⟩ := read_some hr
    rw [tn_zero] at g4
    refine ⟨by rw [List.length_cons]; omega, g3, ?_⟩
    rw [put, Nat.add_comm 1, List.take_succ_cons, ← g4, g5]
    simp
  · rename_i h0
    obtain ⟨_, h2⟩ := Prod.mk.inj h
    obtain ⟨_, h3⟩ := Prod.mk.inj h2
    exact absurd h3 h0
theorem getI_one {l : List UInt8} {n : Int} {k : Nat} (h : getI l = (n, k, 0)) : k ≤ l.length ∧ -9223372036854775808 ≤ n ∧ n ≤ 9223372036854775807 ∧ putI n = l.take k := by
  have hne : l ≠ [] := by intro e; subst e; cases h
  obtain ⟨b, r, rfl⟩ := cons_of hne
  have hb := b.toNat_lt
  by_cases hc : 128 ≤ b.toNat
  · rw [getI_hi b r hc] at h
    generalize hr : readN r (b.toNat - 128) 0 = x at h
    obtain ⟨x1, x2⟩ := x
    simp only at h
    split at h
    · rename_i h0
      subst h0
      split at h
      · cases h
      rename_i hm
      obtain ⟨rfl, h2⟩ := Prod.mk.inj h
      obtain ⟨rfl, _⟩ := Prod.mk.inj h2
      obtain ⟨g1, g2, g3, g4, g5⟩ := read_some hr
      rw [tn_zero] at g4
      refine ⟨by rw [List.length_cons]; omega, by omega, by omega, ?_⟩
      rw [putI, if_neg (by omega), Int.toNat_natCast, Nat.add_comm 1, List.take_succ_cons, ← g4, g5, show 128 + (b.toNat - 128) = b.toNat from by omega]
      simp
    · rename_i h0
      obtain ⟨_, h2⟩ := Prod.mk.inj h
      obtain ⟨_, h3⟩ := Prod.mk.inj h2
      exact absurd h3 h0
  · rw [getI_lo b r hc] at h
    generalize hr : readN r (127 - b.toNat) 255 = x at h
    obtain ⟨x1, x2⟩ := x
    simp only at h
    split at h
    · rename_i h0
      subst h0
      split at h
      · cases h
      rename_i hm
      obtain ⟨rfl, h2⟩ := Prod.mk.inj h
      obtain ⟨rfl, _⟩ := Prod.mk.inj h2
      obtain ⟨g1, g2, g3, g4, g5⟩ := read_some hr
      refine ⟨by rw [List.length_cons]; omega, by omega, by omega, ?_⟩
      rw [putI, if_pos (by omega), show (-1 - (-1 - (x1 : Int))).toNat = x1 from by omega, Nat.add_comm 1, List.take_succ_cons, ← g4, g5, show 127 - (127 - b.toNat) = b.toNat from by omega]
      simp
    · rename_i h0
      obtain ⟨_, h2⟩ := Prod.mk.inj h
      obtain ⟨_, h3⟩ := Prod.mk.inj h2
      exact absurd h3 h0
theorem scan_one : ∀ (n : Nat) (l acc : List UInt8) (p : Nat) (t : List UInt8) (k : Nat), l.length ≤ n → acc.length ≤ 1024 → scanT l acc p = (t, k, 0) →
    ∃ u, t = acc ++ u ∧ t.length ≤ 1024 ∧ k = p + (putT u).length ∧ (putT u).length ≤ l.length ∧ putT u = l.take (putT u).length := by
  intro n
  induction n with
  | zero =>
    intro l acc p t k hl _ h
    have : l = [] := List.length_eq_zero_iff.1 (by omega)
    subst this
    cases h
  | succ n ih =>
    intro l acc p t k hl ha h
    cases l with
    | nil => cases h
    | cons b r =>
      rw [List.length_cons] at hl
      by_cases hb : b = 0
      · subst hb
        cases r with
        | nil => rw [scan_end] at h; cases h
        | cons d r =>
          rw [List.length_cons] at hl
          by_cases hd0 : d = 0
          · subst hd0
            rw [scan_zeros] at h
            obtain ⟨rfl, h2⟩ := Prod.mk.inj h
            obtain ⟨rfl, _⟩ := Prod.mk.inj h2
            exact ⟨[], by simp, ha, rfl, by simp [putT, esc], rfl⟩
          · by_cases hd1 : d = 255
            · subst hd1
              by_cases hf : acc.length = 1024
              · rw [scan_esc_full _ _ _ hf] at h; cases h
              · rw [scan_esc _ _ _ hf] at h
                obtain ⟨u, g1, g2, g3, g4, g5⟩ := ih r _ _ _ _ (by omega) (by simp; omega) h
                refine ⟨0 :: u, by rw [g1]; simp, g2, ?_, ?_, ?_⟩
                · rw [g3]; simp [putT, esc]; omega
                · have e : (putT (0 :: u)).length = (putT u).length + 2 := by simp [putT, esc]
                  rw [e, List.length_cons, List.length_cons]; omega
                · have e : putT (0 :: u) = 0 :: 255 :: putT u := rfl
                  rw [e, List.length_cons, List.length_cons, List.take_succ_cons, List.take_succ_cons, ← g5]
            · rw [scan_bad _ _ _ _ hd0 hd1] at h; cases h
      · by_cases hf : acc.length = 1024
        · rw [scan_full _ _ _ _ hb hf] at h; cases h
        · rw [scan_byte _ _ _ _ hb hf] at h
          obtain ⟨u, g1, g2, g3, g4, g5⟩ := ih r _ _ _ _ (by omega) (by simp; omega) h
          have e : putT (b :: u) = b :: putT u := by simp [putT, esc, hb]
          refine ⟨b :: u, by rw [g1]; simp, g2, ?_, ?_, ?_⟩
          · rw [g3, e, List.length_cons]; omega
          · rw [e, List.length_cons, List.length_cons]; omega
          · rw [e, List.length_cons, List.take_succ_cons, ← g5]
theorem getT_one {l t : List UInt8} {k : Nat} (h : getT l = (t, k, 0)) : k ≤ l.length ∧ t.length ≤ 1024 ∧ putT t = l.take k := by
  obtain ⟨u, g1, g2, g3, g4, g5⟩ := scan_one l.length l [] 0 t k (Nat.le_refl _) (by simp) h
  rw [List.nil_append] at g1
  subst g1
  rw [Nat.zero_add] at g3
  subst g3
  exact ⟨g4, g2, g5⟩
end Nm
end Go.Proofs.YthpcbbkpjggjbaaGreatDoor
namespace Go.Proofs.YthpcbbkpjggjbaaGreatDoor
namespace Td
abbrev Bs := List UInt8
structure Nd where
  name : Bs
  kind : Int
  mode : Int
  time : Int
  size : Int
  parts : List Bs
  link : Bs
def nErr (n : Nd) : Int :=
  if Nn.nm n.name ≠ 0 then Nn.nm n.name
  else if n.mode < 0 ∨ 511 < n.mode ∨ n.size < 0 ∨ 4096 < n.size ∨ 300 < n.parts.length then 1
  else if n.kind < 1 ∨ 3 < n.kind then 5
  else if (n.kind = 1 ∧ n.link ≠ []) ∨ (1 < n.kind ∧ n.size ≠ 0) ∨ (n.kind = 2 ∧ (n.parts.length ≠ 1 ∨ n.link ≠ [])) ∨ (n.kind = 3 ∧ (n.parts.length ≠ 0 ∨ n.link = [])) then 4
  else if 1024 < n.link.length then 2 else 0
theorem nErr_ok {n : Nd} (h : nErr n = 0) : Nn.nm n.name = 0 ∧ 0 ≤ n.mode ∧ n.mode ≤ 511 ∧ 0 ≤ n.size ∧ n.size ≤ 4096 ∧ n.parts.length ≤ 300 ∧ 1 ≤ n.kind ∧ n.kind ≤ 3 ∧ n.link.length ≤ 1024 := by
  unfold nErr at h
  split at h
  · rename_i q; exact absurd h q
  · rename_i q0
    split at h
    · cases h
    · rename_i q1
      split at h
      · cases h
      · rename_i q2
        split at h
        · cases h
        · split at h
          · cases h
          · rename_i q4
            have := Decidable.not_not.mp q0
            exact ⟨this, by omega, by omega, by omega, by omega, by omega, by omega, by omega, by omega⟩
def low (p : Option Bs) (s : Bs) : Bool := match p with | none => false | some b => !Op.bytesLess b s
def ckB : Option Bs → List Nd → Int
  | _, [] => 0
  | p, n :: l => if nErr n ≠ 0 then nErr n else if low p n.name = true then 4 else ckB (some n.name) l
def check (l : List Nd) : Int := if 64 < l.length then 2 else ckB none l
theorem ckB_each : ∀ {l : List Nd} {p : Option Bs}, ckB p l = 0 → ∀ n ∈ l, nErr n = 0
  | [], _, _, n, hn => absurd hn List.not_mem_nil
  | m :: l, p, h, n, hn => by
    rw [ckB] at h
    split at h
    · rename_i q; exact absurd h q
    · rename_i q
      split at h
      · cases h
      · rcases List.mem_cons.1 hn with e | hn
        · rw [e]; exact Decidable.not_not.mp q
        · exact ckB_each h n hn
theorem check_ok {l : List Nd} (h : check l = 0) : l.length ≤ 64 ∧ ∀ n ∈ l, nErr n = 0 := by
  unfold check at h
  split at h
  · cases h
  · exact ⟨by omega, ckB_each h⟩
def rowT (n : Nd) : Bs := Nm.putT n.name ++ (UInt8.ofNat n.kind.toNat :: (Nm.put n.mode.toNat ++ (Nm.putI n.time ++ (Nm.put n.size.toNat ++ (Nm.put n.parts.length ++ (n.parts.flatten ++ Nm.putT n.link))))))
def rowsT (l : List Nd) : Bs := (l.map rowT).flatten
def textB (l : List Nd) : Bs := Nm.put l.length ++ rowsT l
def write (l : List Nd) : Bs × Int := if check l ≠ 0 then ([], check l) else if 4096 < (textB l).length then ([], 2) else (textB l, 0)
def num (most : Nat) (s : Bs) : Nat × Bs × Int :=
  let g := Nm.getN s
  if g.2.2 ≠ 0 then (0, [], g.2.2) else if most < g.1 then (0, [], 2) else (g.1, s.drop g.2.1, 0)
def eights : Nat → Bs → List Bs
  | 0, _ => []
  | k + 1, s => s.take 8 :: eights k (s.drop 8)
def nd0 : Nd := ⟨[], 0, 0, 0, 0, [], []⟩
def rdOne (s : Bs) : Nd × Bs × Int :=
  let t := Nm.getT s
  if t.2.2 ≠ 0 then (nd0, [], t.2.2) else
  let s1 := s.drop t.2.1
  if s1 = [] then (nd0, [], 3) else
  let m := num 511 s1.tail
  if m.2.2 ≠ 0 then (nd0, [], m.2.2) else
  let i := Nm.getI m.2.1
  if i.2.2 ≠ 0 then (nd0, [], i.2.2) else
  let z := num 4096 (m.2.1.drop i.2.1)
  if z.2.2 ≠ 0 then (nd0, [], z.2.2) else
  let p := num 300 z.2.1
  if p.2.2 ≠ 0 then (nd0, [], p.2.2) else
  if p.2.1.length < 8 * p.1 then (nd0, [], 3) else
  let k := Nm.getT (p.2.1.drop (8 * p.1))
  if k.2.2 ≠ 0 then (nd0, [], k.2.2) else
  (⟨t.1, (s1.headD 0).toNat, m.1, i.1, z.1, eights p.1 p.2.1, k.1⟩, (p.2.1.drop (8 * p.1)).drop k.2.1, 0)
def rdAll : Nat → Bs → List Nd → List Nd × Int
  | 0, s, out => if s ≠ [] then ([], 4) else if check out ≠ 0 then ([], check out) else (out, 0)
  | m + 1, s, out => let r := rdOne s; if r.2.2 ≠ 0 then ([], r.2.2) else rdAll m r.2.1 (out ++ [r.1])
def read (s : Bs) : List Nd × Int :=
  if 4096 < s.length then ([], 2) else
  let g := num 64 s
  if g.2.2 ≠ 0 then ([], g.2.2) else rdAll g.1 g.2.1 []
structure Wn (n : Nd) : Prop where
  lo : -9223372036854775808 ≤ n.time
  hi : n.time ≤ 9223372036854775807
  ids : ∀ p ∈ n.parts, p.length = 8
theorem num_put {most n : Nat} (hm : most < 256 ^ 8) (h : n ≤ most) (m : Bs) : num most (Nm.put n ++ m) = (n, m, 0) := by
  unfold num
  rw [Nm.get_put n m (by omega)]
  simp only [ne_eq, not_true, if_false, List.drop_left]
  rw [if_neg (by omega)]
theorem num_one {most : Nat} {s : Bs} {n : Nat} {r : Bs} (h : num most s = (n, r, 0)) : n ≤ most ∧ Nm.put n ++ r = s := by
  unfold num at h
  rcases hg : Nm.getN s with ⟨a, k, e⟩
  rw [hg] at h
  simp only at h
  split at h
  · rename_i hn; exact absurd (congrArg (fun q => q.2.2) h) hn
  · rename_i h0
    split at h
    · exact absurd (congrArg (fun q => q.2.2) h) (by simp)
    · obtain rfl : a = n := congrArg (fun q => q.1) h
      obtain rfl : s.drop k = r := congrArg (fun q => q.2.1) h
      obtain ⟨_, _, e1⟩ := Nm.get_one (hg.trans (by rw [Decidable.not_not.mp h0]))
      exact ⟨by omega, by rw [e1, List.take_append_drop]⟩
theorem flat8 : ∀ {l : List Bs}, (∀ p ∈ l, p.length = 8) → l.flatten.length = 8 * l.length
  | [], _ => rfl
  | p :: l, h => by
    rw [List.flatten_cons, List.length_append, h p List.mem_cons_self, flat8 fun q hq => h q (List.mem_cons_of_mem _ hq), List.length_cons]
    omega
theorem eights_flat : ∀ {l : List Bs} (m : Bs), (∀ p ∈ l, p.length = 8) → eights l.length (l.flatten ++ m) = l
  | [], _, _ => rfl
  | p :: l, m, h => by
    have h8 := h p List.mem_cons_self
    rw [List.length_cons, eights, List.flatten_cons, List.append_assoc, ← h8, List.take_left, List.drop_left, eights_flat m fun q hq => h q (List.mem_cons_of_mem _ hq)]
theorem flat_eights : ∀ {k : Nat} {s : Bs}, 8 * k ≤ s.length → (eights k s).flatten = s.take (8 * k) ∧ (eights k s).length = k ∧ ∀ p ∈ eights k s, p.length = 8
  | 0, s, _ => by simp [eights]
  | k + 1, s, h => by
    have h1 : 8 * k ≤ (s.drop 8).length := by rw [List.length_drop]; omega
    obtain ⟨a, b, c⟩ := flat_eights h1
    refine ⟨?_, by rw [eights, List.length_cons, b], fun p hp => ?_⟩
    · rw [eights, List.flatten_cons, a, show 8 * (k + 1) = 8 + 8 * k from by omega, List.take_add]
    · rw [eights] at hp
      rcases List.mem_cons.1 hp with e | hp
      · rw [e, List.length_take]; omega
      · exact c p hp
theorem rdOne_row {n : Nd} (hw : Wn n) (h : nErr n = 0) (m : Bs) : rdOne (rowT n ++ m) = (n, m, 0) := by
  obtain ⟨hn, m0, m1, z0, z1, hp, k0, k1, hl⟩ := nErr_ok h
  have hnl : n.name.length ≤ 1024 := by have := Nn.nm_long hn; omega
  have e0 : rowT n ++ m = Nm.putT n.name ++ (UInt8.ofNat n.kind.toNat :: (Nm.put n.mode.toNat ++ (Nm.putI n.time ++ (Nm.put n.size.toNat ++ (Nm.put n.parts.length ++ (n.parts.flatten ++ (Nm.putT n.link ++ m))))))) := by
    unfold rowT
    simp only [List.append_assoc, List.cons_append]
  unfold rdOne
  rw [e0, Nm.getT_putT _ _ hnl]
  have n0 : ¬ ((0 : Int) ≠ 0) := fun k => k rfl
  have hf := flat8 hw.ids
  have hlt : ¬ (n.parts.flatten ++ (Nm.putT n.link ++ m)).length < n.parts.flatten.length := by rw [List.length_append]; omega
  simp only [if_neg n0, List.drop_left, List.tail_cons, num_put (show 511 < 256 ^ 8 by decide) (show n.mode.toNat ≤ 511 by omega), Nm.getI_putI _ _ hw.lo hw.hi,
    num_put (show 4096 < 256 ^ 8 by decide) (show n.size.toNat ≤ 4096 by omega), num_put (show 300 < 256 ^ 8 by decide) hp, reduceCtorEq, if_false, List.headD_cons, ← hf, if_neg hlt, eights_flat _ hw.ids, Nm.getT_putT _ _ hl]
  have kb : ((UInt8.ofNat n.kind.toNat).toNat : Int) = n.kind := by
    rw [UInt8.toNat_ofNat']; omega
  rw [kb, Int.toNat_of_nonneg m0, Int.toNat_of_nonneg z0]
theorem rdOne_one {s r : Bs} {n : Nd} (h : rdOne s = (n, r, 0)) : Wn n ∧ rowT n ++ r = s := by
  unfold rdOne at h
  rcases ht : Nm.getT s with ⟨t, kt, et⟩
  rw [ht] at h
  simp only at h
  split at h
  · rename_i q; exact absurd (congrArg (fun q => q.2.2) h) q
  rename_i q1
  split at h
  · exact absurd (congrArg (fun q => q.2.2) h) (by simp)
  rename_i q2
  rcases hm : num 511 (s.drop kt).tail with ⟨m, s2, em⟩
  rw [hm] at h
  simp only at h
  split at h
  · rename_i q; exact absurd (congrArg (fun q => q.2.2) h) q
  rename_i q3
  rcases hi : Nm.getI s2 with ⟨i, ki, ei⟩
  rw [hi] at h
  simp only at h
  split at h
  · rename_i q; exact absurd (congrArg (fun q => q.2.2) h) q
  rename_i q4
  rcases hz : num 4096 (s2.drop ki) with ⟨z, s3, ez⟩
  rw [hz] at h
  simp only at h
  split at h
  · rename_i q; exact absurd (congrArg (fun q => q.2.2) h) q
  rename_i q5
  rcases hp : num 300 s3 with ⟨p, s4, ep⟩
  rw [hp] at h
  simp only at h
  split at h
  · rename_i q; exact absurd (congrArg (fun q => q.2.2) h) q
  rename_i q6
  split at h
  · exact absurd (congrArg (fun q => q.2.2) h) (by simp)
  rename_i q7
  rcases hk : Nm.getT (s4.drop (8 * p)) with ⟨k, kk, ek⟩
  rw [hk] at h
  simp only at h
  split at h
  · rename_i q; exact absurd (congrArg (fun q => q.2.2) h) q
  rename_i q8
  obtain ⟨_, _, et1⟩ := Nm.getT_one (ht.trans (by rw [Decidable.not_not.mp q1]))
  obtain ⟨_, em1⟩ := num_one (hm.trans (by rw [Decidable.not_not.mp q3]))
  obtain ⟨_, ei1, ei2, ei3⟩ := Nm.getI_one (hi.trans (by rw [Decidable.not_not.mp q4]))
  obtain ⟨_, ez1⟩ := num_one (hz.trans (by rw [Decidable.not_not.mp q5]))
  obtain ⟨_, ep1⟩ := num_one (hp.trans (by rw [Decidable.not_not.mp q6]))
  obtain ⟨_, _, ek1⟩ := Nm.getT_one (hk.trans (by rw [Decidable.not_not.mp q8]))
  obtain ⟨f1, f2, f3⟩ := flat_eights (k := p) (s := s4) (by omega)
  obtain rfl : (s4.drop (8 * p)).drop kk = r := congrArg (fun q => q.2.1) h
  have hn : (⟨t, ((s.drop kt).headD 0).toNat, m, i, z, eights p s4, k⟩ : Nd) = n := congrArg (fun q => q.1) h
  subst hn
  refine ⟨⟨ei1, ei2, f3⟩, ?_⟩
  unfold rowT
  simp only [Int.toNat_natCast, UInt8.ofNat_toNat, List.append_assoc, List.cons_append, f1, f2, ek1, List.take_append_drop, ep1, ez1, ei3, em1, et1]
  have : (s.drop kt).headD 0 :: (s.drop kt).tail = s.drop kt := by
    cases hq : s.drop kt with
    | nil => exact absurd hq q2
    | cons a b => rfl
  rw [this, List.take_append_drop]
theorem rdAll_rows {x : List Nd} : ∀ {out : List Nd}, (∀ n ∈ x, Wn n) → check (out ++ x) = 0 → rdAll x.length (rowsT x) out = (out ++ x, 0) := by
  induction x with
  | nil =>
    intro out _ h
    rw [List.append_nil] at h ⊢
    rw [List.length_nil, rdAll, if_neg (fun k => k rfl), if_neg (fun k => k h)]
  | cons p x ih =>
    intro out hi h
    have hp : nErr p = 0 := (check_ok h).2 p (List.mem_append_right _ List.mem_cons_self)
    have e : rowsT (p :: x) = rowT p ++ rowsT x := rfl
    rw [List.length_cons, rdAll, e, rdOne_row (hi p List.mem_cons_self) hp]
    simp only [ne_eq, not_true, if_false]
    have e2 : out ++ p :: x = (out ++ [p]) ++ x := by rw [List.append_assoc]; rfl
    rw [e2] at h ⊢
    exact ih (fun q hq => hi q (List.mem_cons_of_mem _ hq)) h
theorem read_write {x : List Nd} {s : Bs} (hi : ∀ n ∈ x, Wn n) (h : write x = (s, 0)) : read s = (x, 0) := by
  unfold write at h
  split at h
  · rename_i q; exact absurd (congrArg (fun q => q.2) h) q
  rename_i q
  have hc := Decidable.not_not.mp q
  split at h
  · exact absurd (congrArg (fun q => q.2) h) (by simp)
  rename_i q2
  obtain rfl : textB x = s := congrArg (fun q => q.1) h
  have hl := (check_ok hc).1
  unfold read
  rw [if_neg q2]
  unfold textB
  rw [num_put (by decide) hl]
  simp only [ne_eq, not_true, if_false]
  exact rdAll_rows hi hc
theorem rdAll_one : ∀ {m : Nat} {s : Bs} {out x : List Nd}, (∀ n ∈ out, Wn n) → rdAll m s out = (x, 0) → ∃ y, x = out ++ y ∧ y.length = m ∧ rowsT y = s ∧ (∀ n ∈ x, Wn n) ∧ check x = 0
  | 0, s, out, x, hi, h => by
    rw [rdAll] at h
    split at h
    · exact absurd (congrArg (fun q => q.2) h) (by simp)
    · rename_i hs
      split at h
      · rename_i hn; exact absurd (congrArg (fun q => q.2) h) hn
      · rename_i hc
        obtain rfl : out = x := congrArg (fun q => q.1) h
        exact ⟨[], by rw [List.append_nil], rfl, by rw [Decidable.not_not.mp hs]; rfl, hi, Decidable.not_not.mp hc⟩
  | m + 1, s, out, x, hi, h => by
    rw [rdAll] at h
    rcases hr : rdOne s with ⟨p, r, e⟩
    rw [hr] at h
    simp only at h
    split at h
    · rename_i hn; exact absurd (congrArg (fun q => q.2) h) hn
    · rename_i h0
      obtain ⟨h8, es⟩ := rdOne_one (hr.trans (by rw [Decidable.not_not.mp h0]))
      obtain ⟨y, e1, e2, e3, e4⟩ := rdAll_one (fun q hq => by
        rcases List.mem_append.1 hq with k | k
        · exact hi q k
        · rw [List.mem_singleton.mp k]; exact h8) h
      refine ⟨p :: y, by rw [e1, List.append_assoc]; rfl, by rw [List.length_cons, e2], ?_, e4⟩
      rw [← es, ← e3]
      rfl
theorem write_read {s : Bs} {x : List Nd} (h : read s = (x, 0)) : (∀ n ∈ x, Wn n) ∧ check x = 0 ∧ write x = (s, 0) := by
  unfold read at h
  split at h
  · exact absurd (congrArg (fun q => q.2) h) (by simp)
  rename_i q0
  rcases hg : num 64 s with ⟨n, k, e⟩
  rw [hg] at h
  simp only at h
  split at h
  · rename_i hn; exact absurd (congrArg (fun q => q.2) h) hn
  · rename_i h0
    obtain ⟨_, e1⟩ := num_one (hg.trans (by rw [Decidable.not_not.mp h0]))
    obtain ⟨y, e2, e3, e4, e5, e6⟩ := rdAll_one (fun _ hq => absurd hq List.not_mem_nil) h
    rw [List.nil_append] at e2
    subst e2
    refine ⟨e5, e6, ?_⟩
    have et : textB x = s := by
      unfold textB
      rw [e3, e4, e1]
    unfold write
    rw [if_neg (fun q => q e6), et, if_neg q0]
end Td
end Go.Proofs.YthpcbbkpjggjbaaGreatDoor
namespace Go.Proofs.YthpcbbkpjggjbaaGreatDoor
namespace Wk
open Nn (Name)
open Pk (Bl)
def into (l : List Bl) (b : Bl) : List Bl × Bs × Int :=
  if Pk.bErr b ≠ 0 then (l, [], Pk.bErr b) else match l.find? (fun x => Pk.bid x == Pk.bid b) with
  | none => (l ++ [b], Pk.bid b, 0)
  | some x => if x = b then (l, Pk.bid b, 0) else (l, Pk.bid b, 11)
def pieces : List Bs → List Bl → List Bl × List Bs × Int
  | [], l => (l, [], 0)
  | p :: ps, l => let r := into l (1, p); if r.2.2 ≠ 0 then ([], [], r.2.2) else
    let q := pieces ps r.1; (q.1, r.2.1 :: q.2.1, q.2.2)
def node (x : It) (ids : List Bs) : Td.Nd := ⟨x.nms.getLastD [], x.kind, x.mode, x.time, if x.kind = 1 then x.bytes.length else 0, ids, if x.kind = 3 then x.bytes else []⟩
def thing (cutf : Bs → List Bs) (sub : List Name → List Bl → List Bl × Bs × Int) (x : It) (l : List Bl) : List Bl × List Bs × Int :=
  if x.kind = 1 then pieces (cutf x.bytes) l else if x.kind = 2 then (let s := sub x.nms l; (s.1, [s.2.1], s.2.2)) else (l, [], 0)
def things (cutf : Bs → List Bs) (sub : List Name → List Bl → List Bl × Bs × Int) : List It → List Bl → List Bl × List Td.Nd × Int
  | [], l => (l, [], 0)
  | x :: r, l => let t := thing cutf sub x l; if t.2.2 ≠ 0 then ([], [], t.2.2) else
    let q := things cutf sub r t.1; (q.1, node x t.2.1 :: q.2.1, q.2.2)
def plantDir (cutf : Bs → List Bs) (w : List It) : Nat → List Name → List Bl → List Bl × Bs × Int
  | 0, _, l => (l, [], 3)
  | k + 1, p, l => let t := things cutf (plantDir cutf w k) (kids It.nms w p) l; if t.2.2 ≠ 0 then ([], [], t.2.2) else
    let s := Td.write t.2.1; if s.2 ≠ 0 then ([], [], s.2) else into t.1 (2, s.1)
def blobOf (l : List Bl) (id : Bs) (kind : Int) : Bs × Int := match l.find? (fun b => Pk.bid b == id) with
  | none => ([], 9)
  | some b => if b.1 ≠ kind then ([], 5) else (b.2, 0)
def reapFile (l : List Bl) (size : Int) : List Bs → Bs → Bs × Int
  | [], out => if (out.length : Int) ≠ size then ([], 4) else (out, 0)
  | id :: r, out => let s := blobOf l id 1; if s.2 ≠ 0 then ([], s.2) else if size < ((out ++ s.1).length : Int) then ([], 4) else reapFile l size r (out ++ s.1)
def item (path : List Name) (n : Td.Nd) (bytes : Bs) : It := ⟨Nn.joinB (path ++ [n.name]), n.kind, n.mode, n.time, bytes⟩
def reapNodes (l : List Bl) (sub : Bs → List Name → List It → List It × Int) (path : List Name) : List Td.Nd → List It → List It × Int
  | [], w => (w, 0)
  | n :: r, w =>
    if 8 ≤ path.length then ([], 14) else if 100 ≤ w.length then ([], 2) else
    let f := if n.kind = 1 then reapFile l n.size n.parts [] else (n.link, 0)
    if f.2 ≠ 0 then ([], f.2) else
    let w1 := w ++ [item path n f.1]
    let s := if n.kind = 2 then sub (n.parts.headD []) (path ++ [n.name]) w1 else (w1, 0)
    if s.2 ≠ 0 then ([], s.2) else reapNodes l sub path r s.1
def reapDir (l : List Bl) : Nat → Bs → List Name → List It → List It × Int
  | 0, _, _, _ => ([], 3)
  | k + 1, id, path, w => let s := blobOf l id 2; if s.2 ≠ 0 then ([], s.2) else
    let n := Td.read s.1; if n.2 ≠ 0 then ([], n.2) else reapNodes l (reapDir l k) path n.1 w
structure Fine (l : List Bl) : Prop where
  ok : ∀ b ∈ l, Pk.bErr b = 0
  one : ∀ a ∈ l, ∀ b ∈ l, Pk.bid a = Pk.bid b → a = b
theorem into_ok {l l' : List Bl} {b : Bl} {id : Bs} (h : into l b = (l', id, 0)) : Pk.bErr b = 0 ∧ id = Pk.bid b ∧ b ∈ l' ∧ (∀ x ∈ l, x ∈ l') ∧ (Fine l → Fine l') ∧ (l' = l ∨ l' = l ++ [b]) := by
  unfold into at h
  split at h
  · rename_i q; exact absurd (congrArg (fun z => z.2.2) h) q
  rename_i q
  have hb := Decidable.not_not.mp q
  cases hf : l.find? (fun x => Pk.bid x == Pk.bid b) with
  | none =>
    rw [hf] at h
    obtain rfl : l ++ [b] = l' := congrArg (fun z => z.1) h
    obtain rfl : Pk.bid b = id := congrArg (fun z => z.2.1) h
    refine ⟨hb, rfl, by simp, fun x hx => List.mem_append_left _ hx, fun hF => ⟨fun x hx => ?_, fun x hx y hy e => ?_⟩, .inr rfl⟩
    · rcases List.mem_append.1 hx with k | k
      · exact hF.ok x k
      · rw [List.mem_singleton.1 k]; exact hb
    · have hno : ∀ z ∈ l, Pk.bid z ≠ Pk.bid b := fun z hz e => by
        have := List.find?_eq_none.1 hf z hz
        simp [e] at this
      rcases List.mem_append.1 hx with k | k
      · rcases List.mem_append.1 hy with j | j
        · exact hF.one x k y j e
        · rw [List.mem_singleton.1 j] at e; exact absurd e (hno x k)
      · rw [List.mem_singleton.1 k] at e ⊢
        rcases List.mem_append.1 hy with j | j
        · exact absurd e.symm (hno y j)
        · exact (List.mem_singleton.1 j).symm
  | some x =>
    rw [hf] at h
    simp only at h
    split at h
    · rename_i e
      subst e
      obtain rfl : l = l' := congrArg (fun z => z.1) h
      obtain rfl : Pk.bid x = id := congrArg (fun z => z.2.1) h
      exact ⟨hb, rfl, List.mem_of_find?_eq_some hf, fun _ k => k, fun k => k, .inl rfl⟩
    · exact absurd (congrArg (fun z => z.2.2) h) (by simp)
theorem blobOf_in {l : List Bl} (hF : Fine l) {b : Bl} (hb : b ∈ l) : blobOf l (Pk.bid b) b.1 = (b.2, 0) := by
  unfold blobOf
  cases hf : l.find? (fun x => Pk.bid x == Pk.bid b) with
  | none =>
    have := List.find?_eq_none.1 hf b hb
    simp at this
  | some x =>
    have hx : Pk.bid x = Pk.bid b := by simpa using List.find?_some hf
    obtain rfl := hF.one x (List.mem_of_find?_eq_some hf) b hb hx
    simp
theorem pieces_ok : ∀ (ps : List Bs) (l l' : List Bl) (ids : List Bs), pieces ps l = (l', ids, 0) → ids = ps.map (fun p => Pk.bid (1, p)) ∧ (∀ p ∈ ps, ((1, p) : Bl) ∈ l') ∧ (∀ x ∈ l, x ∈ l') ∧ (Fine l → Fine l')
  | [], l, l', ids, h => by
    cases h
    exact ⟨rfl, fun _ k => absurd k List.not_mem_nil, fun _ k => k, fun k => k⟩
  | p :: ps, l, l', ids, h => by
    rw [pieces] at h
    rcases hi : into l (1, p) with ⟨l1, id, e⟩
    rw [hi] at h
    simp only at h
    split at h
    · rename_i q; exact absurd (congrArg (fun z => z.2.2) h) q
    rename_i q
    obtain rfl := Decidable.not_not.mp q
    obtain ⟨_, rfl, h3, h4, h5, _⟩ := into_ok hi
    rcases hp : pieces ps l1 with ⟨l2, ids2, e2⟩
    rw [hp] at h
    obtain rfl : l2 = l' := congrArg (fun z => z.1) h
    obtain rfl : Pk.bid (1, p) :: ids2 = ids := congrArg (fun z => z.2.1) h
    obtain rfl : e2 = 0 := congrArg (fun z => z.2.2) h
    obtain ⟨r1, r2, r3, r4⟩ := pieces_ok ps l1 l2 ids2 hp
    refine ⟨by rw [r1]; rfl, fun x hx => ?_, fun x hx => r3 x (h4 x hx), fun k => r4 (h5 k)⟩
    rcases List.mem_cons.1 hx with e | hx
    · rw [e]; exact r3 _ h3
    · exact r2 x hx
theorem reapFile_ok {L : List Bl} (hF : Fine L) : ∀ (ps : List Bs) (out : Bs) (size : Int), (∀ p ∈ ps, ((1, p) : Bl) ∈ L) → ((out ++ ps.flatten).length : Int) = size → reapFile L size (ps.map fun p => Pk.bid (1, p)) out = (out ++ ps.flatten, 0)
  | [], out, size, _, hs => by
    rw [List.flatten_nil, List.append_nil] at hs ⊢
    rw [List.map_nil, reapFile, if_neg (fun q => q hs)]
  | p :: ps, out, size, hp, hs => by
    have hb := blobOf_in hF (hp p List.mem_cons_self)
    rw [List.flatten_cons, ← List.append_assoc] at hs ⊢
    rw [List.map_cons, reapFile, hb]
    simp only [ne_eq, not_true, if_false]
    rw [if_neg (by rw [List.length_append] at hs; omega)]
    exact reapFile_ok hF ps (out ++ p) size (fun x hx => hp x (List.mem_cons_of_mem _ hx)) hs
end Wk
end Go.Proofs.YthpcbbkpjggjbaaGreatDoor
namespace Go.Proofs.YthpcbbkpjggjbaaGreatDoor
namespace Wk
open Nn (Name)
theorem tails_snoc (l : List Name) (s : Name) : Nn.tails (l ++ [s]) = Nn.tails l ++ 47 :: s := by
  unfold Nn.tails
  rw [List.flatMap_append]
  simp
theorem bang (l : Bs) (j : Nat) (hj : j < l.length) : (⟨l.toArray⟩ : ByteArray).data[j]! = l[j] := by
  rw [getElem!_pos _ j (by simpa using hj)]
  simp
theorem last_of (a b : Bs) (h : (47 : UInt8) ∉ b) : Lib.lastIndexByte ⟨(a ++ 47 :: b).toArray⟩ 47 = (a.length : Int) := by
  have hsz : (⟨(a ++ 47 :: b).toArray⟩ : ByteArray).size = a.length + 1 + b.length := by
    rw [Lib.size_eq]; simp; omega
  have hmid : ((⟨(a ++ 47 :: b).toArray⟩ : ByteArray).data[a.length]!).toNat = 47 := by
    rw [bang _ _ (by simp)]
    simp
  rcases Lib.lastIndexByte_spec ⟨(a ++ 47 :: b).toArray⟩ 47 with ⟨_, hn⟩ | ⟨i, hi, e, hc, hn⟩
  · exact absurd (by exact_mod_cast hmid) (hn a.length (by rw [hsz]; omega))
  · rw [e]
    rcases Nat.lt_trichotomy i a.length with q | q | q
    · exact absurd (by exact_mod_cast hmid) (hn a.length q (by rw [hsz]; omega))
    · rw [q]
    · exfalso
      rw [hsz] at hi
      have hl : i < (a ++ 47 :: b).length := by simp; omega
      rw [bang _ _ hl] at hc
      have hb : (a ++ 47 :: b)[i] = 47 := UInt8.toNat_inj.1 (by exact_mod_cast hc)
      obtain ⟨k, rfl⟩ : ∃ k, i = a.length + 1 + k := ⟨i - a.length - 1, by omega⟩
      have hb2 : (a ++ 47 :: b)[a.length + 1 + k]? = some 47 := by rw [List.getElem?_eq_getElem hl, hb]
      rw [List.getElem?_append_right (by omega), show a.length + 1 + k - a.length = k + 1 from by omega, List.getElem?_cons_succ] at hb2
      exact h (List.mem_of_getElem? hb2)
theorem count_tails : ∀ (l : List Name), (∀ s ∈ l, (47 : UInt8) ∉ s) → (Nn.tails l).count 47 = l.length
  | [], _ => rfl
  | s :: l, h => by
    have e : Nn.tails (s :: l) = 47 :: (s ++ Nn.tails l) := rfl
    rw [e, List.count_cons_self, List.count_append, List.count_eq_zero.2 (h s List.mem_cons_self), count_tails l fun t ht => h t (List.mem_cons_of_mem _ ht), List.length_cons]
    omega
theorem joinB_tails {l : List Name} (h : l ≠ []) : Nn.joinB l = Nn.tails l := by unfold Nn.joinB; rw [if_neg h]
theorem path_tails {x : It} (h : Ok1 x) : x.path = Nn.tails x.nms := by rw [path_eq h, joinB_tails h.ne]
def par (x : It) : Bs := Nn.tails x.nms.dropLast
def nam (x : It) : Name := x.nms.getLastD []
theorem nms_snoc {x : It} (h : Ok1 x) : x.nms = x.nms.dropLast ++ [nam x] := by
  have := List.dropLast_concat_getLast h.ne
  unfold nam
  rw [List.getLastD_eq_getLast?, List.getLast?_eq_some_getLast h.ne, Option.getD_some, this]
theorem path_snoc {x : It} (h : Ok1 x) : x.path = par x ++ 47 :: nam x := by
  rw [path_tails h]
  conv => lhs; rw [nms_snoc h]
  exact tails_snoc _ _
theorem nam_slash {x : It} (h : Ok1 x) : (47 : UInt8) ∉ nam x := by
  refine Nn.noslash (errs_nms h) _ ?_
  rw [nms_snoc h]
  simp
theorem path_long {x : It} (h : Ok1 x) : x.path.length = (par x).length + 1 + (nam x).length := by
  rw [path_snoc h]; simp; omega
def dirs (done : List It) : List Bs := [] :: (done.filter It.dir).map It.path
theorem dirs_snoc (done : List It) (x : It) : dirs (done ++ [x]) = if x.kind = 2 then dirs done ++ [x.path] else dirs done := by
  unfold dirs
  rw [List.filter_append, List.map_append]
  by_cases h : x.kind = 2
  · rw [if_pos h, List.filter_cons_of_pos (by unfold It.dir; simpa using h)]; rfl
  · rw [if_neg h, List.filter_cons_of_neg (by unfold It.dir; simpa using h)]; simp
theorem lies_dirs {done : List It} {x : It} (h : Ok1 x) : lies done x = decide (par x ∈ dirs done) := by
  by_cases h0 : x.nms.dropLast = []
  · have e1 : up x = [47] := by unfold up; rw [h0]; rfl
    have e2 : par x = [] := by unfold par; rw [h0]; rfl
    unfold lies dirs
    rw [e1, e2]
    simp
  · have e1 : up x = par x := joinB_tails h0
    have e2 : up x ≠ [47] := fun e => h0 (joinB_root (errs_up h) e)
    have e3 : par x ≠ [] := by
      unfold par
      cases q : x.nms.dropLast with
      | nil => exact absurd q h0
      | cons s l => exact fun e => by cases e
    unfold lies
    rw [decide_eq_false e2, Bool.false_or]
    rw [Bool.eq_iff_iff]
    simp only [List.any_eq_true, Bool.and_eq_true, decide_eq_true_eq]
    unfold dirs
    rw [e1, List.mem_cons, List.mem_map]
    constructor
    · rintro ⟨y, hy, e, hd⟩
      exact .inr ⟨y, List.mem_filter.2 ⟨hy, hd⟩, e⟩
    · rintro (e | ⟨y, hy, e⟩)
      · exact absurd e e3
      · obtain ⟨h1, h2⟩ := List.mem_filter.1 hy
        exact ⟨y, h1, e, h2⟩
theorem names_few {x : It} (h : Ok1 x) : x.nms.length ≤ 8 := by
  have := errsF_few _ 0 (errs_nms h) (by omega)
  omega
end Wk
end Go.Proofs.YthpcbbkpjggjbaaGreatDoor
namespace Go.Proofs.YthpcbbkpjggjbaaGreatDoor
open Go.RowKit
def mkB (p : List UInt8) : ByteArray := ⟨p.toArray⟩
structure Im where
  path : ByteArray
  kind : Int
  mode : Int
  time : Int
  bytes : ByteArray
def Im.it (x : Im) : Wk.It := ⟨x.path.data.toList, x.kind, x.mode, x.time, x.bytes.data.toList⟩
def its (l : List Im) : List Wk.It := l.map Im.it
theorem its_length (l : List Im) : (its l).length = l.length := List.length_map _
theorem Im.it_inj {a b : Im} (h : a.it = b.it) : a = b := by
  obtain ⟨⟨⟨p⟩⟩, k, m, t, ⟨⟨s⟩⟩⟩ := a
  obtain ⟨⟨⟨p'⟩⟩, k', m', t', ⟨⟨s'⟩⟩⟩ := b
  simp only [Im.it, Wk.It.mk.injEq] at h
  obtain ⟨rfl, rfl, rfl, rfl, rfl⟩ := h
  rfl
theorem its_inj {a b : List Im} (h : its a = its b) : a = b := (List.map_inj_right fun _ _ => Im.it_inj).1 h
abbrev imC (x : Im) : List Value := [.string x.path, .int .i64 x.kind, .int .i64 x.mode, .int .i64 x.time, .string x.bytes]
abbrev imV (x : Im) : Value := .agg #[.string x.path, .int .i64 x.kind, .int .i64 x.mode, .int .i64 x.time, .string x.bytes]
theorem imC_length (x : Im) : (imC x).length = 5 := rfl
theorem imC_one (x : Im) : ∀ u ∈ imC x, u.oneCell' = true := by
  intro u hu
  simp [imC] at hu
  rcases hu with rfl | rfl | rfl | rfl | rfl <;> rfl
structure Im.Ok (x : Im) : Prop where
  path : x.path.size ≤ 140737488351232
  bytes : x.bytes.size ≤ 140737488351232
  time : (Lit.int .i64 x.time).wf = true
theorem Im.Ok.time2 {x : Im} (h : x.Ok) : -9223372036854775808 ≤ x.it.time ∧ x.it.time ≤ 9223372036854775807 := by
  have ht := h.time
  simp [Lit.wf, IntKind.min, IntKind.max, IntKind.signed, IntKind.bits] at ht
  exact ht
abbrev Ims (w : World) (v : Value) (l : List Im) : Prop := Rx 5 imC w v l
theorem Rx.item {w : World} {a : Option Addr} {n c : Nat} {l : List Im} (h : Ims w (.slice a n c) l) (j : Nat) (t : Im) (hj : l[j]? = some t) : ∃ bk o, a = some ⟨bk, o, none⟩ ∧ bk < w.heap.size ∧
    w.cell? ⟨bk, o + j * 5, none⟩ = some (.string t.path) ∧ w.cell? ⟨bk, o + j * 5 + 1, none⟩ = some (.int .i64 t.kind) ∧ w.cell? ⟨bk, o + j * 5 + 2, none⟩ = some (.int .i64 t.mode) ∧
    w.cell? ⟨bk, o + j * 5 + 3, none⟩ = some (.int .i64 t.time) ∧ w.cell? ⟨bk, o + j * 5 + 4, none⟩ = some (.string t.bytes) := by
  obtain ⟨bk, o, h1, h2, h3⟩ := h.get j t hj
  exact ⟨bk, o, h1, h2, h3 0 _ rfl, h3 1 _ rfl, h3 2 _ rfl, h3 3 _ rfl, h3 4 _ rfl⟩
theorem five_at {w : World} {b : Nat} {t : TypeId} {fr : Nat × Nat} {v0 v1 v2 v3 v4 : Value} (h : w.heap[b]? = some (.cells #[v0, v1, v2, v3, v4] t fr)) :
    w.cell? ⟨b, 0, none⟩ = some v0 ∧ w.cell? ⟨b, 1, none⟩ = some v1 ∧ w.cell? ⟨b, 2, none⟩ = some v2 ∧ w.cell? ⟨b, 3, none⟩ = some v3 ∧ w.cell? ⟨b, 4, none⟩ = some v4 ∧ b < w.heap.size := by
  refine ⟨?_, ?_, ?_, ?_, ?_, (Array.getElem?_eq_some_iff.1 h).1⟩ <;> simp [World.cell?, h]
theorem path_parts {x : Im} (h : Wk.Ok1 x.it) : x.path.data.toList = Wk.par x.it ++ 47 :: Wk.nam x.it := Wk.path_snoc h
theorem path_size {x : Im} (_ : Wk.Ok1 x.it) (hp : x.path.size ≤ 140737488351232) : x.path.size < 4611686018427387904 := by omega
theorem Rx.rest {α : Type} {k : Nat} {C : α → List Value} {w : World} {bk o c : Nat} {x : α} {l : List α} (h : Rx k C w (.slice (some ⟨bk, o, none⟩) (l.length + 1) c) (x :: l)) :
    Rx k C w (.slice (if c = 1 then some ⟨bk, o, none⟩ else some ⟨bk, o + k, none⟩) l.length (c - 1)) l := by
  obtain ⟨a', n', c', e, h1, h2⟩ := h.room
  cases e
  refine ⟨?_, ⟨_, _, _, rfl, by omega, by omega⟩⟩
  by_cases hc : c = 1
  · have hl : l.length = 0 := by omega
    rw [List.length_eq_zero_iff.1 hl]
    exact .inl ⟨⟨_, _, rfl⟩, rfl⟩
  · rw [if_neg hc]
    rcases h.at_ with ⟨⟨_, _, e⟩, _⟩ | ⟨bk', o', cap, e, h3, h4⟩
    · cases e
    · cases e
      refine .inr ⟨bk, o + k, c - 1, rfl, h3, fun j t hj r u hu => ?_⟩
      have := h4 (j + 1) t (by simpa using hj) r u hu
      rw [Nat.add_mul, Nat.one_mul] at this
      rw [← this]
      congr 2
      omega
end Go.Proofs.YthpcbbkpjggjbaaGreatDoor
namespace Go.Proofs.YthpcbbkpjggjbaaGreatDoor
namespace Dl
open Nn (Name)
open Wk (Bs It)
def bef (p q : Bs) : Prop := Nn.ahead (Nn.split p).1 (Nn.split q).1 = true
def okp (p : Bs) : Prop := (Nn.split p).2 = 0
theorem bef_irr (p : Bs) : ¬ bef p p := fun h => by unfold bef at h; rw [Nn.ahead_irr] at h; cases h
theorem bef_trans {p q r : Bs} (h : bef p q) (k : bef q r) : bef p r := Nn.ahead_trans _ _ _ h k
theorem bef_asym {p q : Bs} (h : bef p q) : ¬ bef q p := fun k => bef_irr p (bef_trans h k)
theorem okp_inj {p q : Bs} (hp : okp p) (hq : okp q) (h : (Nn.split p).1 = (Nn.split q).1) : p = q := by
  have h1 := Nn.split_join (show Nn.split p = ((Nn.split p).1, 0) from Prod.ext rfl hp)
  have h2 := Nn.split_join (show Nn.split q = ((Nn.split q).1, 0) from Prod.ext rfl hq)
  rw [h] at h1
  exact congrArg Prod.fst (h1.symm.trans h2)
theorem bef_tri {p q : Bs} (hp : okp p) (hq : okp q) (h : p ≠ q) : bef p q ∨ bef q p := by
  have := Nn.ahead_tri (Nn.split p).1 (Nn.split q).1 fun e => h (okp_inj hp hq e)
  unfold bef
  cases hb : Nn.ahead (Nn.split q).1 (Nn.split p).1
  · rw [hb] at this; exact .inl this
  · exact .inr rfl
def Srt {α : Type} (f : α → Bs) (l : List α) : Prop := l.Pairwise fun a b => bef (f a) (f b)
def at_ {α : Type} (f : α → Bs) (l : List α) (p : Bs) : Option α := l.find? fun x => decide (f x = p)
section
variable {α : Type} {f : α → Bs}
theorem at_some {l : List α} {p : Bs} {x : α} (h : at_ f l p = some x) : x ∈ l ∧ f x = p := ⟨List.mem_of_find?_eq_some h, by simpa using List.find?_some h⟩
theorem at_none {l : List α} {p : Bs} : at_ f l p = none ↔ ∀ x ∈ l, f x ≠ p := by
  unfold at_
  rw [List.find?_eq_none]
  simp
theorem at_mem {l : List α} (h : Srt f l) {x : α} (hx : x ∈ l) : at_ f l (f x) = some x := by
  cases e : at_ f l (f x) with
  | none => exact absurd rfl (at_none.1 e x hx)
  | some y =>
    obtain ⟨hy, e2⟩ := at_some e
    by_cases q : y = x
    · rw [q]
    · have : bef (f x) (f y) ∨ bef (f y) (f x) := by
        obtain ⟨i, hi, rfl⟩ := List.getElem_of_mem hx
        obtain ⟨j, hj, rfl⟩ := List.getElem_of_mem hy
        rcases Nat.lt_trichotomy i j with k | k | k
        · exact .inl (List.pairwise_iff_getElem.1 h i j hi hj k)
        · subst k; exact absurd rfl q
        · exact .inr (List.pairwise_iff_getElem.1 h j i hj hi k)
      rw [e2] at this
      rcases this with k | k
      · exact absurd k (bef_irr _)
      · exact absurd k (bef_irr _)
theorem at_iff {l : List α} (h : Srt f l) {p : Bs} {x : α} : at_ f l p = some x ↔ x ∈ l ∧ f x = p := ⟨at_some, fun ⟨hx, e⟩ => by rw [← e]; exact at_mem h hx⟩
theorem ext {l m : List α} (hl : Srt f l) (hm : Srt f m) (h : ∀ p, at_ f l p = at_ f m p) : l = m :=
  Wk.sorted_eq (fun _ _ => bef_asym) hl hm fun a => ⟨fun ha => (at_iff hm).1 ((h (f a)).symm.trans (at_mem hl ha)) |>.1, fun ha => (at_iff hl).1 ((h (f a)).trans (at_mem hm ha)) |>.1⟩
end
def put : List Bs → Bs → List Bs
  | [], p => [p]
  | q :: l, p => if (Nn.less q p).1 = true then q :: put l p else if q = p then q :: l else p :: q :: l
def paths (l : List Bs) : List Bs := l.foldl put []
theorem less_bef {p q : Bs} (hp : okp p) (hq : okp q) : (Nn.less p q).1 = true ↔ bef p q := by
  unfold Nn.less okp at *
  rw [if_neg (by simpa using hp), if_neg (by simpa using hq)]
  rfl
theorem mem_put : ∀ (l : List Bs) (p x : Bs), x ∈ put l p ↔ x ∈ l ∨ x = p
  | [], p, x => by simp [put]
  | q :: l, p, x => by
    rw [put]
    split
    · rw [List.mem_cons, mem_put l p x, List.mem_cons, or_assoc]
    · split
      · rename_i e
        subst e
        simp only [List.mem_cons]
        constructor
        · exact fun h => .inl h
        · rintro (h | h)
          · exact h
          · exact .inl h
      · simp only [List.mem_cons]
        constructor
        · rintro (h | h | h)
          · exact .inr h
          · exact .inl (.inl h)
          · exact .inl (.inr h)
        · rintro ((h | h) | h)
          · exact .inr (.inl h)
          · exact .inr (.inr h)
          · exact .inl h
theorem put_srt : ∀ (l : List Bs) (p : Bs), (∀ x ∈ l, okp x) → okp p → Srt id l → Srt id (put l p)
  | [], p, _, _, _ => by unfold put Srt; exact List.pairwise_singleton _ _
  | q :: l, p, hl, hp, h => by
    obtain ⟨h1, h2⟩ := List.pairwise_cons.1 h
    have hq := hl q List.mem_cons_self
    rw [put]
    split
    · rename_i hb
      refine List.pairwise_cons.2 ⟨fun x hx => ?_, put_srt l p (fun x hx => hl x (List.mem_cons_of_mem _ hx)) hp h2⟩
      rcases (mem_put l p x).1 hx with hx | hx
      · exact h1 x hx
      · rw [hx]; exact (less_bef hq hp).1 hb
    · rename_i hb
      split
      · exact h
      · rename_i hne
        have hpq : bef p q := by
          rcases bef_tri hp hq (fun e => hne e.symm) with k | k
          · exact k
          · exact absurd ((less_bef hq hp).2 k) hb
        refine List.pairwise_cons.2 ⟨fun x hx => ?_, h⟩
        rcases List.mem_cons.1 hx with hx | hx
        · rw [hx]; exact hpq
        · exact bef_trans hpq (h1 x hx)
theorem puts_all : ∀ (r l : List Bs), (∀ x ∈ r, okp x) → (∀ x ∈ l, okp x) → Srt id l → Srt id (r.foldl put l) ∧ ∀ x, x ∈ r.foldl put l ↔ x ∈ l ∨ x ∈ r
  | [], l, _, _, h => ⟨h, fun x => by simp⟩
  | p :: r, l, hr, hl, h => by
    have hp := hr p List.mem_cons_self
    obtain ⟨a, b⟩ := puts_all r (put l p) (fun x hx => hr x (List.mem_cons_of_mem _ hx)) (fun x hx => by
      rcases (mem_put l p x).1 hx with k | k
      · exact hl x k
      · rw [k]; exact hp) (put_srt l p hl hp h)
    refine ⟨a, fun x => ?_⟩
    rw [List.foldl_cons, b x, mem_put, List.mem_cons, or_assoc]
theorem paths_srt {l : List Bs} (h : ∀ x ∈ l, okp x) : Srt id (paths l) := (puts_all l [] h (fun _ q => absurd q List.not_mem_nil) List.Pairwise.nil).1
theorem mem_paths {l : List Bs} (h : ∀ x ∈ l, okp x) (x : Bs) : x ∈ paths l ↔ x ∈ l := by
  have := (puts_all l [] h (fun _ q => absurd q List.not_mem_nil) List.Pairwise.nil).2 x
  rw [show paths l = l.foldl put [] from rfl, this]
  simp
section
variable {α : Type} {g : α → Bs} {f : Bs → Option α}
theorem fm_srt {P : List Bs} (hP : Srt id P) (hf : ∀ p x, f p = some x → g x = p) : Srt g (P.filterMap f) := by
  unfold Srt
  rw [List.pairwise_filterMap]
  refine List.Pairwise.imp ?_ hP
  intro p q hpq x hx y hy
  rw [hf p x hx, hf q y hy]
  exact hpq
theorem fm_at {P : List Bs} (hP : Srt id P) (hf : ∀ p x, f p = some x → g x = p) (p : Bs) : at_ g (P.filterMap f) p = if p ∈ P then f p else none := by
  have hs := fm_srt (f := f) (g := g) hP hf
  split
  · rename_i hp
    cases e : f p with
    | none =>
      rw [at_none]
      intro x hx
      obtain ⟨q, hq, hqx⟩ := List.mem_filterMap.1 hx
      rintro rfl
      rw [hf q x hqx] at e
      rw [e] at hqx
      cases hqx
    | some x =>
      rw [at_iff hs]
      exact ⟨List.mem_filterMap.2 ⟨p, hp, e⟩, hf p x e⟩
  · rename_i hp
    rw [at_none]
    intro x hx
    obtain ⟨q, hq, hqx⟩ := List.mem_filterMap.1 hx
    rintro rfl
    rw [hf q x hqx] at hp
    exact hp hq
end
structure Ed where
  path : Bs
  gone : Bool
  item : It
def it0 : It := ⟨[], 0, 0, 0, []⟩
def same (x y : It) : Bool := decide (x.path = y.path ∧ x.kind = y.kind ∧ x.mode = y.mode ∧ x.time = y.time ∧ x.bytes = y.bytes)
theorem same_iff {x y : It} : same x y = true ↔ x = y := by
  unfold same
  rw [decide_eq_true_eq]
  constructor
  · rintro ⟨h1, h2, h3, h4, h5⟩
    obtain ⟨_, _, _, _, _⟩ := x
    obtain ⟨_, _, _, _, _⟩ := y
    simp_all
  · rintro rfl
    exact ⟨rfl, rfl, rfl, rfl, rfl⟩
def diffE (a b : List It) (p : Bs) : Option Ed :=
  match at_ It.path b p with
  | none => some ⟨p, true, it0⟩
  | some y => match at_ It.path a p with
    | none => some ⟨p, false, y⟩
    | some x => if same x y = true then none else some ⟨p, false, y⟩
def diff (a b : List It) : List Ed × Int :=
  if Wk.world a ≠ 0 then ([], Wk.world a) else if Wk.world b ≠ 0 then ([], Wk.world b) else ((paths (a.map It.path ++ b.map It.path)).filterMap (diffE a b), 0)
def eErr (x : Ed) : Int :=
  if (Nn.split x.path).2 ≠ 0 then (Nn.split x.path).2 else if (x.gone = true ∧ same x.item it0 = false) ∨ (x.gone = false ∧ x.item.path ≠ x.path) then 4 else 0
def lateE (pr : Option Ed) (x : Ed) : Bool := match pr with | none => false | some y => !(Nn.less y.path x.path).1
def chkF : Option Ed → List Ed → Int
  | _, [] => 0
  | pr, x :: r => if eErr x ≠ 0 then eErr x else if lateE pr x = true then 4 else chkF (some x) r
def check (l : List Ed) : Int := if 200 < l.length then 2 else chkF none l
def appE (a : List It) (l : List Ed) (p : Bs) : Option It :=
  match at_ Ed.path l p with
  | some e => if e.gone = true then none else some e.item
  | none => at_ It.path a p
def appL (a : List It) (l : List Ed) : List It := (paths (a.map It.path ++ l.map Ed.path)).filterMap (appE a l)
def apply (a : List It) (l : List Ed) : List It × Int :=
  if Wk.world a ≠ 0 then ([], Wk.world a) else if check l ≠ 0 then ([], check l) else if Wk.world (appL a l) ≠ 0 then ([], Wk.world (appL a l)) else (appL a l, 0)
def joinE (l m : List Ed) (p : Bs) : Option Ed := match at_ Ed.path m p with | some x => some x | none => at_ Ed.path l p
def joinL (l m : List Ed) : List Ed := (paths (l.map Ed.path ++ m.map Ed.path)).filterMap (joinE l m)
def join (l m : List Ed) : List Ed × Int :=
  if check l ≠ 0 then ([], check l) else if check m ≠ 0 then ([], check m) else if 200 < (joinL l m).length then ([], 2) else (joinL l m, 0)
theorem wld {a : List It} (h : Wk.world a = 0) : a.length ≤ 100 ∧ Srt It.path a ∧ ∀ x ∈ a, okp x.path := by
  obtain ⟨h1, h2⟩ := Wk.world_ok h
  exact ⟨h1, h2.sorted, fun x hx => (Wk.iErr_ok (h2.each x hx)).spl⟩
theorem eErr_ok {x : Ed} : eErr x = 0 ↔ okp x.path ∧ (x.gone = true → x.item = it0) ∧ (x.gone = false → x.item.path = x.path) := by
  unfold eErr okp
  split
  · rename_i h
    exact ⟨fun e => absurd e h, fun ⟨e, _⟩ => absurd e h⟩
  · rename_i h
    have h := Decidable.not_not.mp h
    split
    · rename_i k
      refine ⟨fun e => absurd e (by decide), fun ⟨_, e1, e2⟩ => ?_⟩
      rcases k with ⟨k1, k2⟩ | ⟨k1, k2⟩
      · rw [same_iff.2 (e1 k1)] at k2; cases k2
      · exact absurd (e2 k1) k2
    · rename_i k
      refine ⟨fun _ => ⟨h, fun e => same_iff.1 (by cases q : same x.item it0 with | true => rfl | false => exact absurd (.inl ⟨e, q⟩) k), fun e => Classical.byContradiction fun q => k (.inr ⟨e, q⟩)⟩, fun _ => rfl⟩
theorem chkF_ok : ∀ (r : List Ed) (pr : Option Ed), (∀ y, pr = some y → okp y.path) → (chkF pr r = 0 ↔ (∀ x ∈ r, eErr x = 0) ∧ Srt Ed.path (pr.toList ++ r))
  | [], pr, _ => by
    refine ⟨fun _ => ⟨fun _ q => absurd q List.not_mem_nil, ?_⟩, fun _ => rfl⟩
    cases pr with
    | none => exact List.Pairwise.nil
    | some y => exact List.pairwise_singleton _ _
  | x :: r, pr, hpr => by
    rw [chkF]
    by_cases he : eErr x = 0
    · have hx := (eErr_ok.1 he).1
      rw [if_neg (fun q => q he)]
      have ih := chkF_ok r (some x) fun y e => by cases e; exact hx
      cases pr with
      | none =>
        rw [if_neg (fun e => by cases e), ih]
        constructor
        · rintro ⟨h1, h2⟩
          exact ⟨fun y hy => (List.mem_cons.1 hy).elim (fun e => by rw [e]; exact he) (h1 y), h2⟩
        · rintro ⟨h1, h2⟩
          exact ⟨fun y hy => h1 y (List.mem_cons_of_mem _ hy), h2⟩
      | some z =>
        have hz := hpr z rfl
        by_cases hb : bef z.path x.path
        · have hl := (less_bef hz hx).2 hb
          rw [if_neg (fun k => by have k : (!(Nn.less z.path x.path).1) = true := k; rw [hl] at k; cases k), ih]
          constructor
          · rintro ⟨h1, h2⟩
            refine ⟨fun y hy => (List.mem_cons.1 hy).elim (fun e => by rw [e]; exact he) (h1 y), ?_⟩
            refine List.pairwise_cons.2 ⟨fun y hy => ?_, h2⟩
            rcases List.mem_cons.1 hy with e | hy
            · rw [e]; exact hb
            · exact bef_trans hb ((List.pairwise_cons.1 h2).1 y hy)
          · rintro ⟨h1, h2⟩
            exact ⟨fun y hy => h1 y (List.mem_cons_of_mem _ hy), (List.pairwise_cons.1 h2).2⟩
        · have hl : (Nn.less z.path x.path).1 = false := by
            cases e : (Nn.less z.path x.path).1 with
            | false => rfl
            | true => exact absurd ((less_bef hz hx).1 e) hb
          rw [if_pos (by show (!(Nn.less z.path x.path).1) = true; rw [hl]; rfl)]
          exact ⟨fun e => absurd e (by decide), fun ⟨_, h2⟩ => absurd ((List.pairwise_cons.1 h2).1 x (List.mem_cons_self)) hb⟩
    · rw [if_pos he]
      exact ⟨fun e => absurd e he, fun ⟨h1, _⟩ => absurd (h1 x List.mem_cons_self) he⟩
theorem check_ok {l : List Ed} : check l = 0 ↔ l.length ≤ 200 ∧ (∀ x ∈ l, eErr x = 0) ∧ Srt Ed.path l := by
  unfold check
  split
  · rename_i h
    exact ⟨fun e => absurd e (by decide), fun ⟨k, _⟩ => by omega⟩
  · rename_i h
    rw [chkF_ok l none (fun y e => by cases e)]
    exact ⟨fun ⟨a, b⟩ => ⟨by omega, a, b⟩, fun ⟨_, a, b⟩ => ⟨a, b⟩⟩
end Dl
end Go.Proofs.YthpcbbkpjggjbaaGreatDoor
namespace Go.Proofs.YthpcbbkpjggjbaaGreatDoor
namespace Dl
open Nn (Name)
open Wk (Bs It)
theorem put_len : ∀ (l : List Bs) (p : Bs), (put l p).length ≤ l.length + 1
  | [], _ => by simp [put]
  | q :: l, p => by
    rw [put]
    split
    · have := put_len l p; simp; omega
    · split
      · simp
      · simp
theorem puts_len : ∀ (r l : List Bs), (r.foldl put l).length ≤ l.length + r.length
  | [], l => by simp
  | p :: r, l => by
    have h1 := puts_len r (put l p)
    have h2 := put_len l p
    rw [List.foldl_cons, List.length_cons]
    omega
theorem paths_len (l : List Bs) : (paths l).length ≤ l.length := by
  have := puts_len l []
  show (l.foldl put []).length ≤ _
  simpa using this
theorem okp_two {a b : List It} (ha : Wk.world a = 0) (hb : Wk.world b = 0) : ∀ x ∈ a.map It.path ++ b.map It.path, okp x := fun x hx => by
  rcases List.mem_append.1 hx with h | h
  · obtain ⟨y, hy, rfl⟩ := List.mem_map.1 h
    exact (wld ha).2.2 y hy
  · obtain ⟨y, hy, rfl⟩ := List.mem_map.1 h
    exact (wld hb).2.2 y hy
theorem diffE_key {a b : List It} {p : Bs} {x : Ed} (h : diffE a b p = some x) : x.path = p := by
  unfold diffE at h
  split at h
  · cases h; rfl
  · split at h
    · cases h; rfl
    · split at h
      · cases h
      · cases h; rfl
theorem diffE_same {a b : List It} {p : Bs} {y : It} (ha : at_ It.path a p = some y) (hb : at_ It.path b p = some y) : diffE a b p = none := by
  unfold diffE
  rw [hb, ha]
  simp only
  rw [if_pos (same_iff.2 rfl)]
theorem diffE_other {a b : List It} {p : Bs} (h : at_ It.path a p ≠ at_ It.path b p) : ∃ x, diffE a b p = some x ∧ ((x.gone = true ∧ at_ It.path b p = none) ∨ (x.gone = false ∧ at_ It.path b p = some x.item)) := by
  unfold diffE
  cases hb : at_ It.path b p with
  | none => exact ⟨_, rfl, .inl ⟨rfl, rfl⟩⟩
  | some y =>
    cases ha : at_ It.path a p with
    | none => exact ⟨_, rfl, .inr ⟨rfl, rfl⟩⟩
    | some x =>
      simp only
      rw [if_neg (fun q => h (by rw [ha, hb, same_iff.1 q]))]
      exact ⟨_, rfl, .inr ⟨rfl, rfl⟩⟩
theorem diff_at {a b : List It} (ha : Wk.world a = 0) (hb : Wk.world b = 0) (p : Bs) : (at_ It.path a p = at_ It.path b p → at_ Ed.path (diff a b).1 p = none) ∧ (at_ It.path a p ≠ at_ It.path b p → at_ Ed.path (diff a b).1 p = diffE a b p) := by
  have hd : (diff a b).1 = (paths (a.map It.path ++ b.map It.path)).filterMap (diffE a b) := by unfold diff; rw [if_neg (fun q => q ha), if_neg (fun q => q hb)]
  rw [hd, fm_at (paths_srt (okp_two ha hb)) (fun p x => diffE_key)]
  by_cases hp : p ∈ paths (a.map It.path ++ b.map It.path)
  · rw [if_pos hp]
    refine ⟨fun e => ?_, fun _ => rfl⟩
    cases hb' : at_ It.path b p with
    | none =>
      exfalso
      rw [hb'] at e
      rw [mem_paths (okp_two ha hb)] at hp
      rcases List.mem_append.1 hp with h | h
      · obtain ⟨y, hy, hyp⟩ := List.mem_map.1 h
        exact at_none.1 e y hy hyp
      · obtain ⟨y, hy, hyp⟩ := List.mem_map.1 h
        exact at_none.1 hb' y hy hyp
    | some y => exact diffE_same (e.trans hb') hb'
  · rw [if_neg hp]
    have hn : at_ It.path a p = none ∧ at_ It.path b p = none := by
      rw [mem_paths (okp_two ha hb)] at hp
      refine ⟨at_none.2 fun y hy e => hp (List.mem_append_left _ (List.mem_map.2 ⟨y, hy, e⟩)), at_none.2 fun y hy e => hp (List.mem_append_right _ (List.mem_map.2 ⟨y, hy, e⟩))⟩
    exact ⟨fun _ => rfl, fun e => absurd (by rw [hn.1, hn.2]) e⟩
theorem diff_srt {a b : List It} (ha : Wk.world a = 0) (hb : Wk.world b = 0) : Srt Ed.path (diff a b).1 := by
  have hd : (diff a b).1 = (paths (a.map It.path ++ b.map It.path)).filterMap (diffE a b) := by unfold diff; rw [if_neg (fun q => q ha), if_neg (fun q => q hb)]
  rw [hd]
  exact fm_srt (paths_srt (okp_two ha hb)) fun p x => diffE_key
theorem diff_ok {a b : List It} (ha : Wk.world a = 0) (hb : Wk.world b = 0) : (diff a b).2 = 0 ∧ check (diff a b).1 = 0 := by
  have hd : diff a b = ((paths (a.map It.path ++ b.map It.path)).filterMap (diffE a b), 0) := by unfold diff; rw [if_neg (fun q => q ha), if_neg (fun q => q hb)]
  refine ⟨by rw [hd], check_ok.2 ⟨?_, fun x hx => ?_, diff_srt ha hb⟩⟩
  · rw [hd]
    have h1 := List.length_filterMap_le (diffE a b) (paths (a.map It.path ++ b.map It.path))
    have h2 := paths_len (a.map It.path ++ b.map It.path)
    rw [List.length_append, List.length_map, List.length_map] at h2
    have h3 := (wld ha).1
    have h4 := (wld hb).1
    show (List.filterMap _ _).length ≤ 200
    omega
  · rw [hd] at hx
    obtain ⟨p, hp, hpx⟩ := List.mem_filterMap.1 hx
    have hk := okp_two ha hb p ((mem_paths (okp_two ha hb) p).1 hp)
    rw [eErr_ok]
    unfold diffE at hpx
    split at hpx
    · cases hpx
      exact ⟨hk, (fun _ => rfl), (fun e => by cases e)⟩
    · rename_i y hy
      split at hpx
      · cases hpx
        exact ⟨hk, (fun e => by cases e), (fun _ => (at_some hy).2)⟩
      · split at hpx
        · cases hpx
        · cases hpx
          exact ⟨hk, (fun e => by cases e), (fun _ => (at_some hy).2)⟩
theorem eds {l : List Ed} (h : check l = 0) : Srt Ed.path l ∧ (∀ x ∈ l, okp x.path) ∧ ∀ x ∈ l, x.gone = false → x.item.path = x.path := by
  obtain ⟨_, h2, h3⟩ := check_ok.1 h
  exact ⟨h3, fun x hx => (eErr_ok.1 (h2 x hx)).1, fun x hx => (eErr_ok.1 (h2 x hx)).2.2⟩
theorem okp_app {a : List It} {l : List Ed} (ha : ∀ x ∈ a, okp x.path) (hl : ∀ x ∈ l, okp x.path) : ∀ x ∈ a.map It.path ++ l.map Ed.path, okp x := fun x hx => by
  rcases List.mem_append.1 hx with h | h
  · obtain ⟨y, hy, rfl⟩ := List.mem_map.1 h
    exact ha y hy
  · obtain ⟨y, hy, rfl⟩ := List.mem_map.1 h
    exact hl y hy
theorem appE_key {a : List It} {l : List Ed} (hl : ∀ x ∈ l, x.gone = false → x.item.path = x.path) {p : Bs} {x : It} (h : appE a l p = some x) : x.path = p := by
  unfold appE at h
  split at h
  · rename_i e he
    split at h
    · cases h
    · rename_i hg
      cases h
      obtain ⟨h1, h2⟩ := at_some he
      rw [hl e h1 (by cases hq : e.gone with | true => exact absurd hq hg | false => rfl), h2]
  · exact (at_some h).2
theorem app_at {a : List It} {l : List Ed} (ha : ∀ x ∈ a, okp x.path) (hl : check l = 0) (p : Bs) : at_ It.path (appL a l) p = appE a l p := by
  obtain ⟨_, h2, h3⟩ := eds hl
  unfold appL
  rw [fm_at (paths_srt (okp_app ha h2)) fun p x => appE_key h3]
  split
  · rfl
  · rename_i hp
    rw [mem_paths (okp_app ha h2)] at hp
    have h4 : at_ It.path a p = none := at_none.2 fun y hy e => hp (List.mem_append_left _ (List.mem_map.2 ⟨y, hy, e⟩))
    have h5 : at_ Ed.path l p = none := at_none.2 fun y hy e => hp (List.mem_append_right _ (List.mem_map.2 ⟨y, hy, e⟩))
    unfold appE
    rw [h5, h4]
theorem app_srt {a : List It} {l : List Ed} (ha : ∀ x ∈ a, okp x.path) (hl : check l = 0) : Srt It.path (appL a l) := by
  obtain ⟨_, h2, h3⟩ := eds hl
  exact fm_srt (paths_srt (okp_app ha h2)) fun p x => appE_key h3
theorem back {a b : List It} (ha : Wk.world a = 0) (hb : Wk.world b = 0) : apply a (diff a b).1 = (b, 0) := by
  obtain ⟨_, hc⟩ := diff_ok ha hb
  have he : appL a (diff a b).1 = b := by
    refine ext (app_srt (wld ha).2.2 hc) (wld hb).2.1 fun p => ?_
    rw [app_at (wld ha).2.2 hc]
    unfold appE
    by_cases e : at_ It.path a p = at_ It.path b p
    · rw [(diff_at ha hb p).1 e]; exact e
    · rw [(diff_at ha hb p).2 e]
      obtain ⟨x, hx, hq⟩ := diffE_other e
      rw [hx]
      simp only
      rcases hq with ⟨g, hq⟩ | ⟨g, hq⟩
      · rw [if_pos g, hq]
      · rw [if_neg (by rw [g]; decide), hq]
  unfold apply
  rw [if_neg (fun q => q ha), if_neg (fun q => q hc), he, if_neg (fun q => q hb)]
end Dl
end Go.Proofs.YthpcbbkpjggjbaaGreatDoor
namespace Go.Proofs.YthpcbbkpjggjbaaGreatDoor
namespace Dl
open Nn (Name)
open Wk (Bs It)
def cmp (p q : Bs) : Int := if p = q then 0 else if (Nn.less p q).1 = true then -1 else 1
def sideC {α β : Type} (f : α → Bs) (g : β → Bs) (x : α) (r : List β → List (Option α × Option β)) : List β → List (Option α × Option β)
  | [] => (some x, none) :: r []
  | y :: m => if f x = g y then (some x, some y) :: r m else if (Nn.less (f x) (g y)).1 = true then (some x, none) :: r (y :: m) else (none, some y) :: sideC f g x r m
def side {α β : Type} (f : α → Bs) (g : β → Bs) : List α → List β → List (Option α × Option β)
  | [] => fun m => m.map fun y => (none, some y)
  | x :: l => sideC f g x (side f g l)
section
variable {α β : Type} {f : α → Bs} {g : β → Bs}
theorem side_nil (m : List β) : side f g [] m = m.map fun y => (none, some y) := rfl
theorem side_nil2 : ∀ (l : List α), side f g l [] = l.map fun x => (some x, none)
  | [] => rfl
  | x :: l => by
    show (some x, none) :: side f g l [] = _
    rw [side_nil2 l]
    rfl
theorem side_eq {x : α} {y : β} (h : f x = g y) (l : List α) (m : List β) : side f g (x :: l) (y :: m) = (some x, some y) :: side f g l m := by
  show sideC f g x (side f g l) (y :: m) = _
  rw [sideC, if_pos h]
theorem side_lt {x : α} {y : β} (h : f x ≠ g y) (k : (Nn.less (f x) (g y)).1 = true) (l : List α) (m : List β) : side f g (x :: l) (y :: m) = (some x, none) :: side f g l (y :: m) := by
  show sideC f g x (side f g l) (y :: m) = _
  rw [sideC, if_neg h, if_pos k]
theorem side_gt {x : α} {y : β} (h : f x ≠ g y) (k : (Nn.less (f x) (g y)).1 = false) (l : List α) (m : List β) : side f g (x :: l) (y :: m) = (none, some y) :: side f g (x :: l) m := by
  show sideC f g x (side f g l) (y :: m) = _
  rw [sideC, if_neg h, if_neg (by rw [k]; decide)]
  rfl
theorem side_ind {P : List α → List β → List (Option α × Option β) → Prop} (h0 : ∀ m, P [] m (m.map fun y => (none, some y))) (h1 : ∀ l, P l [] (l.map fun x => (some x, none)))
    (he : ∀ x l y m, f x = g y → P l m (side f g l m) → P (x :: l) (y :: m) ((some x, some y) :: side f g l m))
    (hl : ∀ x l y m, f x ≠ g y → (Nn.less (f x) (g y)).1 = true → P l (y :: m) (side f g l (y :: m)) → P (x :: l) (y :: m) ((some x, none) :: side f g l (y :: m)))
    (hg : ∀ x l y m, f x ≠ g y → (Nn.less (f x) (g y)).1 = false → P (x :: l) m (side f g (x :: l) m) → P (x :: l) (y :: m) ((none, some y) :: side f g (x :: l) m)) :
    ∀ (l : List α) (m : List β), P l m (side f g l m)
  | [], m => h0 m
  | x :: l, m => by
    induction m with
    | nil => rw [side_nil2]; exact h1 _
    | cons y m ih =>
      by_cases e : f x = g y
      · rw [side_eq e]; exact he x l y m e (side_ind h0 h1 he hl hg l m)
      · cases k : (Nn.less (f x) (g y)).1 with
        | true => rw [side_lt e k]; exact hl x l y m e k (side_ind h0 h1 he hl hg l (y :: m))
        | false => rw [side_gt e k]; exact hg x l y m e k ih
theorem side_len (l : List α) (m : List β) : (side f g l m).length ≤ l.length + m.length :=
  side_ind (f := f) (g := g) (P := fun l m s => s.length ≤ l.length + m.length) (fun m => by simp) (fun l => by simp) (fun x l y m _ h => by simp only [List.length_cons]; omega) (fun x l y m _ _ h => by simp only [List.length_cons] at *; omega) (fun x l y m _ _ h => by simp only [List.length_cons] at *; omega) l m
def key (f : α → Bs) (g : β → Bs) : Option α × Option β → Bs
  | (some x, _) => f x
  | (none, some y) => g y
  | (none, none) => []
theorem at_cons (x : α) (l : List α) (p : Bs) : at_ f (x :: l) p = if f x = p then some x else at_ f l p := by
  unfold at_
  rw [List.find?_cons]
  by_cases e : f x = p
  · rw [if_pos e, decide_eq_true e]
  · rw [if_neg e, decide_eq_false e]
structure Two (f : α → Bs) (g : β → Bs) (l : List α) (m : List β) : Prop where
  sl : Srt f l
  sm : Srt g m
  ol : ∀ x ∈ l, okp (f x)
  om : ∀ y ∈ m, okp (g y)
theorem Two.tl {x : α} {l : List α} {m : List β} (h : Two f g (x :: l) m) : Two f g l m := ⟨(List.pairwise_cons.1 h.sl).2, h.sm, (fun y hy => h.ol y (List.mem_cons_of_mem _ hy)), h.om⟩
theorem Two.tm {y : β} {l : List α} {m : List β} (h : Two f g l (y :: m)) : Two f g l m := ⟨h.sl, (List.pairwise_cons.1 h.sm).2, h.ol, (fun x hx => h.om x (List.mem_cons_of_mem _ hx))⟩
theorem Two.lt {x : α} {y : β} {l : List α} {m : List β} (h : Two f g (x :: l) (y :: m)) (k : (Nn.less (f x) (g y)).1 = true) : bef (f x) (g y) := (less_bef (h.ol x List.mem_cons_self) (h.om y List.mem_cons_self)).1 k
theorem Two.gt {x : α} {y : β} {l : List α} {m : List β} (h : Two f g (x :: l) (y :: m)) (e : f x ≠ g y) (k : (Nn.less (f x) (g y)).1 = false) : bef (g y) (f x) := by
  have hx := h.ol x List.mem_cons_self
  have hy := h.om y List.mem_cons_self
  rcases bef_tri hx hy e with q | q
  · rw [(less_bef hx hy).2 q] at k; cases k
  · exact q
theorem head_bef {x : α} {l : List α} (h : Srt f (x :: l)) {p : Bs} (hp : p ∈ l.map f) : bef (f x) p := by
  obtain ⟨y, hy, rfl⟩ := List.mem_map.1 hp
  exact (List.pairwise_cons.1 h).1 y hy
theorem ne_of_bef {p q : Bs} (h : bef p q) : p ≠ q := fun e => bef_irr q (by rw [e] at h; exact h)
theorem at_out {l : List α} {p : Bs} (h : ∀ q ∈ l.map f, p ≠ q) : at_ f l p = none := at_none.2 fun x hx e => h (f x) (List.mem_map.2 ⟨x, hx, rfl⟩) e.symm
theorem side_mem : ∀ (l : List α) (m : List β), Two f g l m → ∀ z ∈ side f g l m, (z.1 = at_ f l (key f g z) ∧ z.2 = at_ g m (key f g z)) ∧ (key f g z ∈ l.map f ∨ key f g z ∈ m.map g) :=
  side_ind (f := f) (g := g) (P := fun l m s => Two f g l m → ∀ z ∈ s, (z.1 = at_ f l (key f g z) ∧ z.2 = at_ g m (key f g z)) ∧ (key f g z ∈ l.map f ∨ key f g z ∈ m.map g))
    (fun m h z hz => by
      obtain ⟨y, hy, rfl⟩ := List.mem_map.1 hz
      exact ⟨⟨rfl, (at_mem h.sm hy).symm⟩, .inr (List.mem_map.2 ⟨y, hy, rfl⟩)⟩)
    (fun l h z hz => by
      obtain ⟨x, hx, rfl⟩ := List.mem_map.1 hz
      exact ⟨⟨(at_mem h.sl hx).symm, rfl⟩, .inl (List.mem_map.2 ⟨x, hx, rfl⟩)⟩)
    (fun x l y m e ih h z hz => by
      rcases List.mem_cons.1 hz with rfl | hz
      · refine ⟨⟨?_, ?_⟩, .inl List.mem_cons_self⟩
        · show some x = at_ f (x :: l) (f x)
          rw [at_cons, if_pos rfl]
        · show some y = at_ g (y :: m) (f x)
          rw [at_cons, if_pos e.symm]
      · obtain ⟨⟨h1, h2⟩, h3⟩ := ih h.tl.tm z hz
        have hb : f x ≠ key f g z := ne_of_bef (by
          rcases h3 with h3 | h3
          · exact head_bef h.sl h3
          · rw [e]; exact head_bef h.sm h3)
        refine ⟨⟨?_, ?_⟩, h3.imp (List.mem_cons_of_mem _) (List.mem_cons_of_mem _)⟩
        · rw [at_cons, if_neg hb]; exact h1
        · rw [at_cons, if_neg (by rw [← e]; exact hb)]; exact h2)
    (fun x l y m e k ih h z hz => by
      have hxy := h.lt k
      rcases List.mem_cons.1 hz with rfl | hz
      · refine ⟨⟨?_, ?_⟩, .inl List.mem_cons_self⟩
        · show some x = at_ f (x :: l) (f x)
          rw [at_cons, if_pos rfl]
        · show none = at_ g (y :: m) (f x)
          refine (at_out fun q hq => ?_).symm
          rw [List.map_cons] at hq
          rcases List.mem_cons.1 hq with rfl | hq
          · exact e
          · exact ne_of_bef (bef_trans hxy (head_bef h.sm hq))
      · obtain ⟨⟨h1, h2⟩, h3⟩ := ih h.tl z hz
        have hb : f x ≠ key f g z := ne_of_bef (by
          rcases h3 with h3 | h3
          · exact head_bef h.sl h3
          · rw [List.map_cons] at h3
            rcases List.mem_cons.1 h3 with h3 | h3
            · rw [h3]; exact hxy
            · exact bef_trans hxy (head_bef h.sm h3))
        refine ⟨⟨?_, h2⟩, h3.imp (List.mem_cons_of_mem _) id⟩
        rw [at_cons, if_neg hb]; exact h1)
    (fun x l y m e k ih h z hz => by
      have hyx := h.gt e k
      rcases List.mem_cons.1 hz with rfl | hz
      · refine ⟨⟨?_, ?_⟩, .inr List.mem_cons_self⟩
        · show none = at_ f (x :: l) (g y)
          refine (at_out fun q hq => ?_).symm
          rw [List.map_cons] at hq
          rcases List.mem_cons.1 hq with rfl | hq
          · exact fun q => e q.symm
          · exact ne_of_bef (bef_trans hyx (head_bef h.sl hq))
        · show some y = at_ g (y :: m) (g y)
          rw [at_cons, if_pos rfl]
      · obtain ⟨⟨h1, h2⟩, h3⟩ := ih h.tm z hz
        have hb : g y ≠ key f g z := ne_of_bef (by
          rcases h3 with h3 | h3
          · rw [List.map_cons] at h3
            rcases List.mem_cons.1 h3 with h3 | h3
            · rw [h3]; exact hyx
            · exact bef_trans hyx (head_bef h.sl h3)
          · exact head_bef h.sm h3)
        refine ⟨⟨h1, ?_⟩, h3.imp id (List.mem_cons_of_mem _)⟩
        rw [at_cons, if_neg hb]; exact h2)
theorem side_all : ∀ (l : List α) (m : List β), ∀ p, p ∈ l.map f ∨ p ∈ m.map g → ∃ z ∈ side f g l m, key f g z = p :=
  side_ind (f := f) (g := g) (P := fun l m s => ∀ p, p ∈ l.map f ∨ p ∈ m.map g → ∃ z ∈ s, key f g z = p)
    (fun m p h => by
      rcases h with h | h
      · exact absurd h List.not_mem_nil
      · obtain ⟨y, hy, rfl⟩ := List.mem_map.1 h
        exact ⟨_, List.mem_map.2 ⟨y, hy, rfl⟩, rfl⟩)
    (fun l p h => by
      rcases h with h | h
      · obtain ⟨y, hy, rfl⟩ := List.mem_map.1 h
        exact ⟨_, List.mem_map.2 ⟨y, hy, rfl⟩, rfl⟩
      · exact absurd h List.not_mem_nil)
    (fun x l y m e ih p h => by
      rw [List.map_cons, List.map_cons, List.mem_cons, List.mem_cons] at h
      rcases h with (h | h) | (h | h)
      · exact ⟨_, List.mem_cons_self, h.symm⟩
      · obtain ⟨z, hz, k⟩ := ih p (.inl h); exact ⟨z, List.mem_cons_of_mem _ hz, k⟩
      · exact ⟨_, List.mem_cons_self, e.trans h.symm⟩
      · obtain ⟨z, hz, k⟩ := ih p (.inr h); exact ⟨z, List.mem_cons_of_mem _ hz, k⟩)
    (fun x l y m e _ ih p h => by
      rw [List.map_cons, List.mem_cons] at h
      rcases h with (h | h) | h
      · exact ⟨_, List.mem_cons_self, h.symm⟩
      · obtain ⟨z, hz, k⟩ := ih p (.inl h); exact ⟨z, List.mem_cons_of_mem _ hz, k⟩
      · obtain ⟨z, hz, k⟩ := ih p (.inr h); exact ⟨z, List.mem_cons_of_mem _ hz, k⟩)
    (fun x l y m e _ ih p h => by
      rw [List.map_cons (f := g), List.mem_cons] at h
      rcases h with h | (h | h)
      · obtain ⟨z, hz, k⟩ := ih p (.inl h); exact ⟨z, List.mem_cons_of_mem _ hz, k⟩
      · exact ⟨_, List.mem_cons_self, h.symm⟩
      · obtain ⟨z, hz, k⟩ := ih p (.inr h); exact ⟨z, List.mem_cons_of_mem _ hz, k⟩)
theorem side_srt : ∀ (l : List α) (m : List β), Two f g l m → Srt (key f g) (side f g l m) :=
  side_ind (f := f) (g := g) (P := fun l m s => Two f g l m → Srt (key f g) s)
    (fun m h => by unfold Srt; rw [List.pairwise_map]; exact h.sm)
    (fun l h => by unfold Srt; rw [List.pairwise_map]; exact h.sl)
    (fun x l y m e ih h => List.pairwise_cons.2 ⟨fun z hz => by
      rcases (side_mem l m h.tl.tm z hz).2 with h3 | h3
      · exact head_bef h.sl h3
      · show bef (f x) _
        rw [e]; exact head_bef h.sm h3, ih h.tl.tm⟩)
    (fun x l y m e k ih h => List.pairwise_cons.2 ⟨fun z hz => by
      rcases (side_mem l (y :: m) h.tl z hz).2 with h3 | h3
      · exact head_bef h.sl h3
      · rw [List.map_cons] at h3
        rcases List.mem_cons.1 h3 with h3 | h3
        · rw [h3]; exact h.lt k
        · exact bef_trans (h.lt k) (head_bef h.sm h3), ih h.tl⟩)
    (fun x l y m e k ih h => List.pairwise_cons.2 ⟨fun z hz => by
      rcases (side_mem (x :: l) m h.tm z hz).2 with h3 | h3
      · rw [List.map_cons] at h3
        rcases List.mem_cons.1 h3 with h3 | h3
        · rw [h3]; exact h.gt e k
        · exact bef_trans (h.gt e k) (head_bef h.sl h3)
      · exact head_bef h.sm h3, ih h.tm⟩)
theorem Two.okp {l : List α} {m : List β} (h : Two f g l m) : ∀ x ∈ l.map f ++ m.map g, okp x := fun x hx => by
  rcases List.mem_append.1 hx with k | k
  · obtain ⟨y, hy, rfl⟩ := List.mem_map.1 k; exact h.ol y hy
  · obtain ⟨y, hy, rfl⟩ := List.mem_map.1 k; exact h.om y hy
theorem key_at {l : List α} {m : List β} {p : Bs} (h : p ∈ l.map f ∨ p ∈ m.map g) : key f g (at_ f l p, at_ g m p) = p := by
  cases e : at_ f l p with
  | some x => exact (at_some e).2
  | none =>
    cases k : at_ g m p with
    | some y => exact (at_some k).2
    | none =>
      exfalso
      rcases h with h | h
      · obtain ⟨x, hx, q⟩ := List.mem_map.1 h; exact at_none.1 e x hx q
      · obtain ⟨x, hx, q⟩ := List.mem_map.1 h; exact at_none.1 k x hx q
theorem side_paths {l : List α} {m : List β} (h : Two f g l m) : side f g l m = (paths (l.map f ++ m.map g)).map fun p => (at_ f l p, at_ g m p) := by
  have hm : ∀ p, p ∈ paths (l.map f ++ m.map g) ↔ p ∈ l.map f ∨ p ∈ m.map g := fun p => by rw [mem_paths h.okp, List.mem_append]
  refine Wk.sorted_eq (R := fun a b => bef (key f g a) (key f g b)) (fun _ _ => bef_asym) (side_srt l m h) ?_ fun z => ?_
  · rw [List.pairwise_map]
    refine List.Pairwise.imp_of_mem ?_ (paths_srt h.okp)
    intro p q hp hq hpq
    rw [key_at ((hm p).1 hp), key_at ((hm q).1 hq)]
    exact hpq
  · rw [List.mem_map]
    constructor
    · intro hz
      obtain ⟨⟨h1, h2⟩, h3⟩ := side_mem l m h z hz
      exact ⟨key f g z, (hm _).2 h3, by rw [← h1, ← h2]⟩
    · rintro ⟨p, hp, rfl⟩
      obtain ⟨z, hz, k⟩ := side_all l m p ((hm p).1 hp)
      obtain ⟨⟨h1, h2⟩, _⟩ := side_mem l m h z hz
      rw [k] at h1 h2
      rw [← h1, ← h2]
      exact hz
theorem side_tell {γ : Type} {l : List α} {m : List β} (h : Two f g l m) {t : Option α × Option β → Option γ} {e : Bs → Option γ} (he : ∀ p, (p ∈ l.map f ∨ p ∈ m.map g) → t (at_ f l p, at_ g m p) = e p) : (side f g l m).filterMap t = (paths (l.map f ++ m.map g)).filterMap e := by
  rw [side_paths h, List.filterMap_map]
  have hm : ∀ p, p ∈ paths (l.map f ++ m.map g) → p ∈ l.map f ∨ p ∈ m.map g := fun p hp => by rwa [mem_paths h.okp, List.mem_append] at hp
  generalize paths (l.map f ++ m.map g) = P at *
  induction P with
  | nil => rfl
  | cons p P ih =>
    rw [List.filterMap_cons, List.filterMap_cons, ih fun q hq => hm q (List.mem_cons_of_mem _ hq)]
    show (match t (at_ f l p, at_ g m p) with | none => _ | some b => b :: _) = _
    rw [he p (hm p List.mem_cons_self)]
    cases e p <;> rfl
theorem side_map {α' β' : Type} (u : α' → α) (v : β' → β) : ∀ (l : List α') (m : List β'), side f g (l.map u) (m.map v) = (side (fun x => f (u x)) (fun y => g (v y)) l m).map fun z => (z.1.map u, z.2.map v) :=
  side_ind (f := fun x => f (u x)) (g := fun y => g (v y)) (P := fun l m s => side f g (l.map u) (m.map v) = s.map fun z => (z.1.map u, z.2.map v))
    (fun m => by simp [side_nil])
    (fun l => by rw [List.map_nil, side_nil2]; simp)
    (fun x l y m e ih => by rw [List.map_cons, List.map_cons, side_eq e, ih]; rfl)
    (fun x l y m e k ih => by rw [List.map_cons] at *; rw [List.map_cons, side_lt e k, ih]; rfl)
    (fun x l y m e k ih => by rw [List.map_cons] at *; rw [List.map_cons, side_gt e k, ih]; rfl)
end
def tDiff : Option It × Option It → Option Ed
  | (some x, none) => some ⟨x.path, true, it0⟩
  | (none, some y) => some ⟨y.path, false, y⟩
  | (some x, some y) => if same x y = true then none else some ⟨y.path, false, y⟩
  | (none, none) => none
def tApp : Option It × Option Ed → Option It
  | (_, some e) => if e.gone = true then none else some e.item
  | (x, none) => x
def tJoin : Option Ed × Option Ed → Option Ed
  | (_, some e) => some e
  | (x, none) => x
theorem two_ii {a b : List It} (ha : Wk.world a = 0) (hb : Wk.world b = 0) : Two It.path It.path a b := ⟨(wld ha).2.1, (wld hb).2.1, (wld ha).2.2, (wld hb).2.2⟩
theorem two_ie {a : List It} {l : List Ed} (ha : Wk.world a = 0) (hl : check l = 0) : Two It.path Ed.path a l := ⟨(wld ha).2.1, (eds hl).1, (wld ha).2.2, (eds hl).2.1⟩
theorem two_ee {l m : List Ed} (hl : check l = 0) (hm : check m = 0) : Two Ed.path Ed.path l m := ⟨(eds hl).1, (eds hm).1, (eds hl).2.1, (eds hm).2.1⟩
theorem diff_side {a b : List It} (ha : Wk.world a = 0) (hb : Wk.world b = 0) : diff a b = ((side It.path It.path a b).filterMap tDiff, 0) := by
  unfold diff
  rw [if_neg (fun q => q ha), if_neg (fun q => q hb), side_tell (two_ii ha hb) (e := diffE a b)]
  intro p hp
  unfold diffE
  cases k : at_ It.path b p with
  | none =>
    cases e : at_ It.path a p with
    | none =>
      exfalso
      rcases hp with h | h
      · obtain ⟨x, hx, q⟩ := List.mem_map.1 h; exact at_none.1 e x hx q
      · obtain ⟨x, hx, q⟩ := List.mem_map.1 h; exact at_none.1 k x hx q
    | some x => simp only [tDiff, (at_some e).2]
  | some y =>
    cases e : at_ It.path a p with
    | none => simp only [tDiff, (at_some k).2]
    | some x => simp only [tDiff, (at_some k).2]
theorem app_side {a : List It} {l : List Ed} (ha : Wk.world a = 0) (hl : check l = 0) : appL a l = (side It.path Ed.path a l).filterMap tApp := by
  unfold appL
  rw [side_tell (two_ie ha hl) (e := appE a l)]
  intro p _
  unfold appE
  cases at_ Ed.path l p with
  | none => rfl
  | some y => rfl
theorem join_side {l m : List Ed} (hl : check l = 0) (hm : check m = 0) : joinL l m = (side Ed.path Ed.path l m).filterMap tJoin := by
  unfold joinL
  rw [side_tell (two_ee hl hm) (e := joinE l m)]
  intro p _
  unfold joinE
  cases at_ Ed.path m p with
  | none => rfl
  | some y => rfl
end Dl
end Go.Proofs.YthpcbbkpjggjbaaGreatDoor
namespace Go.Proofs.YthpcbbkpjggjbaaGreatDoor
open Go.RowKit
structure Em where
  path : ByteArray
  gone : Bool
  item : Im
def Em.ed (x : Em) : Dl.Ed := ⟨x.path.data.toList, x.gone, x.item.it⟩
def edl (l : List Em) : List Dl.Ed := l.map Em.ed
theorem edl_length (l : List Em) : (edl l).length = l.length := List.length_map _
theorem ba_inj {a b : ByteArray} (h : a.data.toList = b.data.toList) : a = b := by
  obtain ⟨⟨a⟩⟩ := a
  obtain ⟨⟨b⟩⟩ := b
  simp only at h
  rw [h]
abbrev emC (x : Em) : List Value := [.string x.path, .bool x.gone, .string x.item.path, .int .i64 x.item.kind, .int .i64 x.item.mode, .int .i64 x.item.time, .string x.item.bytes]
abbrev emV (x : Em) : Value := .agg #[.string x.path, .bool x.gone, .string x.item.path, .int .i64 x.item.kind, .int .i64 x.item.mode, .int .i64 x.item.time, .string x.item.bytes]
theorem emC_length (x : Em) : (emC x).length = 7 := rfl
theorem emC_one (x : Em) : ∀ u ∈ emC x, u.oneCell' = true := by
  intro u hu
  simp [emC] at hu
  rcases hu with rfl | rfl | rfl | rfl | rfl | rfl | rfl <;> rfl
structure Em.Ok (x : Em) : Prop where
  path : x.path.size ≤ 140737488351232
  item : x.item.Ok
abbrev Eds (w : World) (v : Value) (l : List Em) : Prop := Rx 7 emC w v l
theorem Rx.edit {w : World} {a : Option Addr} {n c : Nat} {l : List Em} (h : Eds w (.slice a n c) l) (j : Nat) (t : Em) (hj : l[j]? = some t) : ∃ bk o, a = some ⟨bk, o, none⟩ ∧ bk < w.heap.size ∧
    w.cell? ⟨bk, o + j * 7, none⟩ = some (.string t.path) ∧ w.cell? ⟨bk, o + j * 7 + 1, none⟩ = some (.bool t.gone) ∧ w.cell? ⟨bk, o + j * 7 + 2, none⟩ = some (.string t.item.path) ∧
    w.cell? ⟨bk, o + j * 7 + 3, none⟩ = some (.int .i64 t.item.kind) ∧ w.cell? ⟨bk, o + j * 7 + 4, none⟩ = some (.int .i64 t.item.mode) ∧
    w.cell? ⟨bk, o + j * 7 + 5, none⟩ = some (.int .i64 t.item.time) ∧ w.cell? ⟨bk, o + j * 7 + 6, none⟩ = some (.string t.item.bytes) := by
  obtain ⟨bk, o, h1, h2, h3⟩ := h.get j t hj
  exact ⟨bk, o, h1, h2, h3 0 _ rfl, h3 1 _ rfl, h3 2 _ rfl, h3 3 _ rfl, h3 4 _ rfl, h3 5 _ rfl, h3 6 _ rfl⟩
theorem ed_at {w : World} {b : Nat} {t : TypeId} {fr : Nat × Nat} {v0 v1 v2 v3 v4 v5 v6 : Value} (h : w.heap[b]? = some (.cells #[v0, v1, v2, v3, v4, v5, v6] t fr)) :
    w.cell? ⟨b, 0, none⟩ = some v0 ∧ w.cell? ⟨b, 1, none⟩ = some v1 ∧ w.cell? ⟨b, 2, none⟩ = some v2 ∧ w.cell? ⟨b, 3, none⟩ = some v3 ∧ w.cell? ⟨b, 4, none⟩ = some v4 ∧ w.cell? ⟨b, 5, none⟩ = some v5 ∧ w.cell? ⟨b, 6, none⟩ = some v6 ∧ b < w.heap.size := by
  refine ⟨?_, ?_, ?_, ?_, ?_, ?_, ?_, (Array.getElem?_eq_some_iff.1 h).1⟩ <;> simp [World.cell?, h]
def im0 : Im := ⟨⟨#[]⟩, 0, 0, 0, ⟨#[]⟩⟩
def em0 : Em := ⟨⟨#[]⟩, false, im0⟩
theorem im0_ok : im0.Ok := ⟨by decide, by decide, by decide⟩
end Go.Proofs.YthpcbbkpjggjbaaGreatDoor
namespace Go.Proofs.YthpcbbkpjggjbaaGreatDoor
open Go.RowKit
set_option maxRecDepth 4000
namespace Nn
open Go.Lib
theorem chars_valid (l : List UInt8) : validD l = (chars l).isSome := by
  induction l using chars_ind with
  | h0 => rfl
  | hs l hne ih =>
    rw [validD_step l hne, chars_step l hne]
    by_cases c : decodeL l = (65533, 1)
    · have e : (chr l).2 = 0 := by rw [chr, if_neg hne, if_pos c]
      rw [if_pos (by rw [c]; exact ⟨rfl, rfl⟩), if_pos e]
      rfl
    · have e : chr l = decodeL l := by rw [chr, if_neg hne, if_neg c]
      have h1 := decodeL_width l
      rw [if_neg (fun q => c (Prod.ext q.1 q.2)), if_neg (by rw [e]; omega), ← e, ih (by rw [e]; omega)]
      cases chars (l.drop (chr l).2) <;> rfl
def may (c : Nat) : Bool := decide (32 ≤ c ∧ c ≠ 127 ∧ c ≠ 47)
theorem may_any_iff (l : List Nat) : l.any (fun c => decide (c = 47 ∨ c < 32 ∨ c = 127)) = !l.all may := by
  induction l with
  | nil => rfl
  | cons c l ih =>
    rw [List.any_cons, List.all_cons, ih, Bool.not_and]
    congr 1
    unfold may
    by_cases h : c = 47 ∨ c < 32 ∨ c = 127
    · rw [decide_eq_true h, decide_eq_false (by omega)]; rfl
    · rw [decide_eq_false h, decide_eq_true (by omega)]; rfl
theorem nm_some {s : List UInt8} {l : List Nat} (h : chars s = some l) (h0 : s ≠ []) (h1 : s ≠ [46]) (h2 : s ≠ [46, 46]) : nm s = if l.all may = false then 8 else if 24 < l.length then 2 else 0 := by
  have hl : l ≠ [] := fun e => h0 ((chars_empty s).1 (by rw [h, e]))
  unfold nm
  rw [h]
  dsimp only
  rw [if_neg (by simp only [not_or]; exact ⟨hl, h1, h2⟩), may_any_iff]
  cases l.all may <;> simp
theorem nm_none {s : List UInt8} (h : chars s = none) : nm s = 8 := by unfold nm; rw [h]
theorem nm_few {s : List UInt8} (h : s = [] ∨ s = [46] ∨ s = [46, 46]) : nm s = 8 := by
  rcases h with rfl | rfl | rfl <;> decide +kernel
theorem chars_head {l : List UInt8} {r : List Nat} (h : chars l = some r) (hne : l ≠ []) : decodeL l = chr l ∧ 1 ≤ (chr l).2 ∧ ∃ r', r = (chr l).1 :: r' ∧ chars (l.drop (chr l).2) = some r' := by
  rw [chars_step l hne] at h
  by_cases c : (chr l).2 = 0
  · rw [if_pos c] at h; cases h
  rw [if_neg c] at h
  obtain ⟨r', h1, rfl⟩ := Option.map_eq_some_iff.1 h
  refine ⟨?_, by omega, r', rfl, h1⟩
  unfold chr at c ⊢
  rw [if_neg hne] at c ⊢
  split at c
  · exact absurd rfl c
  · rename_i q; rw [if_neg q]
end Nn
theorem may_any (c : Nat) (w : World) :
    Calls Tryz.prog 92 #[.int .i32 c] w fun e w' => e = .returned (.bool (Nn.may c)) ∧ w' = w := by
  by_cases h1 : 32 ≤ c
  · by_cases h2 : c = 127
    · have HE : Hid (Nn.may c = false) := decide_eq_false (by omega)
      have hq : ((c : Int) != 127) = false := by rw [bne_eq_false_iff_eq]; omega
      clear h2
      go_enter Tryz.func92, Tryz.ntmps92
      go_wp2_with fail
      go_ret
      exact ⟨by rw [HE.out]; rfl, rfl⟩
    · have hq : ((c : Int) != 127) = true := by rw [bne_iff_ne]; omega
      by_cases h3 : c = 47
      · have HE : Hid (Nn.may c = false) := decide_eq_false (by omega)
        have hr : ((c : Int) != 47) = false := by rw [bne_eq_false_iff_eq]; omega
        clear h2 h3
        go_enter Tryz.func92, Tryz.ntmps92
        go_wp2_with fail
        go_ret
        exact ⟨by rw [HE.out]; rfl, rfl⟩
      · have HE : Hid (Nn.may c = true) := decide_eq_true (by omega)
        have hr : ((c : Int) != 47) = true := by rw [bne_iff_ne]; omega
        clear h2 h3
        go_enter Tryz.func92, Tryz.ntmps92
        go_wp2_with fail
        go_ret
        exact ⟨by rw [HE.out]; rfl, rfl⟩
  · have HE : Hid (Nn.may c = false) := decide_eq_false (by omega)
    go_enter Tryz.func92, Tryz.ntmps92
    go_wp2_with fail
    go_ret
    exact ⟨by rw [HE.out]; rfl, rfl⟩
def Tabs (w : World) : Prop := Lib.Utf8Tabs 1 2 w
theorem Tabs.below {w w' : World} (h : Tabs w) (hb : Below w.heap.size w w') : Tabs w' := Utf8Tabs_below h hb
theorem data_ne {s : ByteArray} {l : List UInt8} (h : s.data.toList ≠ l) : (s.toList == l) = false := by
  rw [beq_eq_false_iff_ne, Lib.toList_data]
  exact h
theorem of_data {s : ByteArray} {l : List UInt8} (h : s.data.toList = l) : s = ⟨l.toArray⟩ := by
  apply ByteArray.ext
  apply Array.toList_inj.1
  simpa using h
set_option maxHeartbeats 1000000 in
theorem check_few (s : ByteArray) (w : World) (h : s.data.toList = [] ∨ s.data.toList = [46] ∨ s.data.toList = [46, 46]) :
    Calls Tryz.prog 75 #[.string s] w fun e w' => e = .returned (.int .i64 8) ∧ Below w.heap.size w w' := by
  rcases h with h | h | h
  all_goals
    obtain rfl := of_data h
    clear h
    go_enter Tryz.func75, Tryz.ntmps75
    go_wp2_with fail
    go_ret
    exact ⟨rfl, Below.refl _ _⟩
set_option maxHeartbeats 1000000 in
theorem check_of (s : ByteArray) (w : World) (hs : s.size ≤ 9223372036854775807)
    (hV : Calls Tryz.prog 91 #[.string s] w fun e w' => e = .returned (.bool (Lib.validD s.data.toList)) ∧ Below w.heap.size w w') :
    Calls Tryz.prog 75 #[.string s] w fun e w' => e = .returned (.int .i64 (Nn.nm s.data.toList)) ∧ Below w.heap.size w w' := by
  by_cases h : s.data.toList = [] ∨ s.data.toList = [46] ∨ s.data.toList = [46, 46]
  · rw [Nn.nm_few h]
    exact check_few s w h
  simp only [not_or] at h
  have e0 : (s.toList == []) = false := data_ne h.1
  have e0' : s.toList.isEmpty = false := by
    rw [Lib.toList_data]
    cases hx : s.data.toList with
    | nil => exact absurd hx h.1
    | cons a b => rfl
  have e1 : (s.toList == [46]) = false := data_ne h.2.1
  have e2 : (s.toList == [46, 46]) = false := data_ne h.2.2
  cases hc : Nn.chars s.data.toList with
  | none =>
    rw [Nn.chars_valid, hc] at hV
    have HE : Hid (Nn.nm s.data.toList = 8) := Nn.nm_none hc
    clear hc h
    go_enter Tryz.func75, Tryz.ntmps75
    go_wp2_with fail
    refine hV.mono ?_
    rintro e w1 ⟨rfl, b1⟩
    go_wp2_with fail
    go_ret
    exact ⟨by rw [HE.out]; rfl, b1⟩
  | some L =>
    rw [Nn.chars_valid, hc] at hV
    have HE : Hid (Nn.nm s.data.toList = if L.all Nn.may = false then 8 else if 24 < L.length then 2 else 0) := Nn.nm_some hc h.1 h.2.1 h.2.2
    have HC : Hid (Nn.chars (s.data.toList.drop 0) = some L) := hc
    clear hc h
    go_enter Tryz.func75, Tryz.ntmps75
    go_wp2_with fail
    refine hV.mono ?_
    rintro e w1 ⟨rfl, b1⟩
    have HB : Hid (Below w.heap.size w w1) := b1
    clear b1 hV
    go_wp2_with fail
    go_loopw [3] (fun c wr => ∃ (pos : Nat) (ds rs : List Nat), c = .int .i64 ds.length ∧ wr = w1.iter s pos ∧ Hid (Nn.chars (s.data.toList.drop pos) = some rs) ∧ Hid (ds.all Nn.may = true) ∧ Hid (L = ds ++ rs) ∧ pos ≤ s.size ∧ ds.length ≤ pos) (fun _ wr => s.size - wr.iterPos w1.heap.size)
    case atStart => exact ⟨0, [], L, rfl, rfl, HC, rfl, rfl, by omega, by simp⟩
    case round =>
      clear HC
      obtain ⟨pos, ds, rs, rfl, rfl, HC, HM, HL, hp, hd⟩ := hrel
      by_cases hlt : pos < s.size
      · have hne : s.data.toList.drop pos ≠ [] := by
          intro e
          have := List.drop_eq_nil_iff.1 e
          rw [← Lib.size_eq] at this
          omega
        obtain ⟨x1, x2, r', x3, x4⟩ := Nn.chars_head HC.out hne
        have x5 := Nn.chr_le (s.data.toList.drop pos)
        rw [List.length_drop, ← Lib.size_eq] at x5
        rw [Lib.decodeL_drop] at x1
        rw [List.drop_drop] at x4
        have hnx : ∀ ty, (Instr.next (.pointer (some ⟨w1.heap.size, 0, none⟩)) true ty).run Tryz.prog (w1.iter s pos) = _ := fun ty => run_next_any w1 s pos ty hlt
        rw [x1] at hnx
        generalize Nn.chr (s.data.toList.drop pos) = D at *
        obtain ⟨r, n⟩ := D
        dsimp only at *
        have HX4 : Hid (Nn.chars (s.data.toList.drop (pos + n)) = some r') := x4
        have HL2 : Hid (L = ds ++ r :: r') := by rw [← x3]; exact HL.out
        clear x1 x3 x4 HC HL hne
        by_cases hm : Nn.may r = true
        · have hq := may_any r (w1.iter s (pos + n))
          rw [hm] at hq
          go_wp2_with fail
          refine hq.mono ?_
          rintro e u ⟨rfl, rfl⟩
          go_wp2_with fail
          go_roundw
          case rel =>
            refine ⟨pos + n, ds ++ [r], r', by simp, rfl, HX4, ?_, ?_, by omega, by simp; omega⟩
            · show _ = _
              rw [List.all_append, HM.out]; simp [hm]
            · show _ = _
              rw [HL2.out]; simp
          case measure => simp only [World.iterPos_iter]; omega
        · have hm := Bool.eq_false_iff.2 hm
          have hq := may_any r (w1.iter s (pos + n))
          rw [hm] at hq
          have HZ : Hid (Nn.nm s.data.toList = 8) := by
            show _ = _
            rw [HE.out, HL2.out, if_pos (by simp [hm])]
          go_wp2_with fail
          refine hq.mono ?_
          rintro e u ⟨rfl, hu⟩
          obtain rfl := hu.symm
          go_wp2_with fail
          go_ret
          exact ⟨by rw [HZ.out]; rfl, HB.out.alloc HB.out.size _⟩
      · obtain rfl : pos = s.size := by omega
        have hr : rs = [] := by
          have := HC.out
          rw [List.drop_eq_nil_of_le (by rw [← Lib.size_eq]; omega), Nn.chars_nil] at this
          exact (Option.some.inj this).symm
        have hnx : ∀ ty, (Instr.next (.pointer (some ⟨w1.heap.size, 0, none⟩)) true ty).run Tryz.prog (w1.iter s s.size) = _ := fun ty => run_next_end w1 s s.size ty hlt
        have HZ : Hid (Nn.nm s.data.toList = if 24 < ds.length then 2 else 0) := by
          show _ = _
          rw [HE.out, HL.out, hr, List.append_nil, if_neg (by rw [HM.out]; simp)]
        clear HC HL hr hlt hp
        by_cases hq : 24 < ds.length
        · go_wp2_with fail
          go_ret
          exact ⟨by rw [HZ.out, if_pos hq]; rfl, HB.out.alloc HB.out.size _⟩
        · go_wp2_with fail
          go_ret
          exact ⟨by rw [HZ.out, if_neg hq]; rfl, HB.out.alloc HB.out.size _⟩
end Go.Proofs.YthpcbbkpjggjbaaGreatDoor
namespace Go.Proofs
open Go.Shelf
def Tryz.laysValid_ren : Go.Shelf.Ren := ⟨fun | 196 => 91 | 259 => 111 | n => n, fun | 9 => 9 | 4 => 4 | 3 => 3 | 5 => 5 | 12 => 12 | 119 => 177 | 0 => 0 | 46 => 167 | 139 => 180 | 138 => 179 | 53 => 145 | n => n, fun | 3 => 1 | 4 => 2 | n => n⟩
theorem Tryz.laysValid : Go.Proofs.Lays.n196 Tryz.prog Tryz.laysValid_ren := {
  mixed := by kernel_rfl
  f196 := Tryz.func91.trans (congrArg some (by kernel_rfl))
  f259 := Tryz.func111.trans (congrArg some (by kernel_rfl))
  t0 := Tryz.underlying0
  a0 := Tryz.isAgg0
  z0 := Tryz.sizeOf0
  v0 := Tryz.zeroValue0
  t3 := Tryz.underlying3
  a3 := Tryz.isAgg3
  z3 := Tryz.sizeOf3
  v3 := Tryz.zeroValue3
  t4 := Tryz.underlying4
  a4 := Tryz.isAgg4
  z4 := Tryz.sizeOf4
  v4 := Tryz.zeroValue4
  t5 := Tryz.underlying5
  a5 := Tryz.isAgg5
  z5 := Tryz.sizeOf5
  v5 := Tryz.zeroValue5
  t9 := Tryz.underlying9
  a9 := Tryz.isAgg9
  z9 := Tryz.sizeOf9
  v9 := Tryz.zeroValue9
  t12 := Tryz.underlying12
  a12 := Tryz.isAgg12
  z12 := Tryz.sizeOf12
  v12 := Tryz.zeroValue12
  t46 := Tryz.underlying167
  a46 := Tryz.isAgg167
  z46 := Tryz.sizeOf167
  v46 := Tryz.zeroValue167
  t53 := Tryz.underlying145
  a53 := Tryz.isAgg145
  z53 := Tryz.sizeOf145
  v53 := Tryz.zeroValue145
  t119 := Tryz.underlying177
  a119 := Tryz.isAgg177
  z119 := Tryz.sizeOf177
  t138 := Tryz.underlying179
  a138 := Tryz.isAgg179
  z138 := Tryz.sizeOf179
  v138 := Tryz.zeroValue179
  t139 := Tryz.underlying180
  a139 := Tryz.isAgg180
  z139 := Tryz.sizeOf180
  v139 := Tryz.zeroValue180
  g3 := by kernel_rfl
  g4 := by kernel_rfl }
end Go.Proofs
namespace Go.Proofs.YthpcbbkpjggjbaaGreatDoor
open Go.RowKit
theorem valid_any (s : ByteArray) (w : World) (hs : s.size ≤ 9223372036854775807) (hT : Tabs w) :
    Calls Tryz.prog 91 #[.string s] w fun e w' => e = .returned (.bool (Lib.validD s.data.toList)) ∧ Below w.heap.size w w' :=
  Any.utf8_ValidString Tryz.laysValid s w hs hT
theorem check_any (s : ByteArray) (w : World) (hs : s.size ≤ 9223372036854775807) (hT : Tabs w) :
    Calls Tryz.prog 75 #[.string s] w fun e w' => e = .returned (.int .i64 (Nn.nm s.data.toList)) ∧ Below w.heap.size w w' :=
  check_of s w hs (valid_any s w hs hT)
end Go.Proofs.YthpcbbkpjggjbaaGreatDoor
namespace Go.Proofs.YthpcbbkpjggjbaaGreatDoor
open Go.RowKit
theorem own_below {base : Nat} {e : TypeId} {k : Nat} {v : Value} {n : Nat} {xs : List Value} {w w' : World} (h : w.ownsRow base e k v n xs) (hb : Below w.heap.size w w') : w'.ownsRow base e k v n xs := by
  obtain ⟨h1, h2⟩ := h
  refine ⟨h1, ?_⟩
  rcases h2 with h2 | ⟨g, cap, cur, hv, hg, hh, r⟩
  · exact .inl h2
  · refine .inr ⟨g, cap, cur, hv, hg, ?_, r⟩
    rw [hb.block g ?_, hh]
    exact (Array.getElem?_eq_some_iff.1 hh).1
theorem own_lower {base base' : Nat} {e : TypeId} {k : Nat} {v : Value} {n : Nat} {xs : List Value} {w : World} (h : w.ownsRow base e k v n xs) (hb : base' ≤ base) : w.ownsRow base' e k v n xs := by
  obtain ⟨h1, h2⟩ := h
  refine ⟨h1, ?_⟩
  rcases h2 with h2 | ⟨g, cap, cur, hv, hg, r⟩
  · exact .inl h2
  · exact .inr ⟨g, cap, cur, hv, by omega, r⟩
theorem own_form {base : Nat} {e : TypeId} {k n : Nat} {w : World} {v : Value} {xs : List Value} (h : w.ownsRow base e k v n xs) : ∃ a c, v = .slice a n c := by
  rcases h.2 with ⟨rfl, h0⟩ | ⟨g, cap, cur, rfl, _⟩
  · exact ⟨_, _, by rw [h0]⟩
  · exact ⟨_, _, rfl⟩
theorem below_past {w w' : World} {o : Obj} (h : Below (w.alloc o).heap.size (w.alloc o) w') : Below w.heap.size w w' :=
  ((Below.refl _ w).alloc (Nat.le_refl _) o).trans (h.mono (by simp))
end Go.Proofs.YthpcbbkpjggjbaaGreatDoor
namespace Go.Proofs.YthpcbbkpjggjbaaGreatDoor
open Go.RowKit
theorem own_kept {p : Nat → Prop} {base : Nat} {e : TypeId} {k : Nat} {v : Value} {n : Nat} {xs : List Value} {w w' : World} (h : w.ownsRow base e k v n xs) (hk : Kept p w w') (hp : ∀ g, v.ownBlock = some g → p g) : w'.ownsRow base e k v n xs := by
  obtain ⟨h1, h2⟩ := h
  refine ⟨h1, ?_⟩
  rcases h2 with h2 | ⟨g, cap, cur, hv, hg, hh, r⟩
  · exact .inl h2
  · refine .inr ⟨g, cap, cur, hv, hg, ?_, r⟩
    rw [hk.block g (Array.getElem?_eq_some_iff.1 hh).1 (hp g (by rw [hv]; rfl)), hh]
theorem own_block {base : Nat} {e : TypeId} {k : Nat} {v : Value} {n : Nat} {xs : List Value} {w : World} (h : w.ownsRow base e k v n xs) {g : Nat} (hg : v.ownBlock = some g) : ∃ cur, w.heap[g]? = some (.cells cur e (0, 0)) ∧ base ≤ g ∧ g < w.heap.size := by
  rcases h.2 with ⟨rfl, _⟩ | ⟨g', cap, cur, rfl, hb, hh, _⟩
  · simp [Value.ownBlock] at hg
  · simp [Value.ownBlock] at hg
    subst hg
    exact ⟨cur, hh, hb, (Array.getElem?_eq_some_iff.1 hh).1⟩
theorem own_len {base : Nat} {e : TypeId} {k : Nat} {v : Value} {n : Nat} {xs : List Value} {w : World} (h : w.ownsRow base e k v n xs) : ∃ a c, v = .slice a n c := by
  rcases h.2 with ⟨rfl, h0⟩ | ⟨g, cap, cur, rfl, _⟩
  · exact ⟨_, _, by rw [h0]⟩
  · exact ⟨_, _, rfl⟩
structure Tx (w : World) (v : Value) (l : List ByteArray) : Prop where
  at_ : ((∃ a c, v = .slice a 0 c) ∧ l = []) ∨ ∃ bk o cap, v = .slice (some ⟨bk, o, none⟩) l.length cap ∧ bk < w.heap.size ∧
    ∀ j, j < l.length → w.cell? ⟨bk, o + j, none⟩ = some (.string (l.getD j ByteArray.empty))
theorem Tx.slice {w : World} {v : Value} {l : List ByteArray} (h : Tx w v l) : ∃ a c, v = .slice a l.length c := by
  rcases h.at_ with ⟨⟨a, c, rfl⟩, rfl⟩ | ⟨bk, o, cap, rfl, _⟩
  · exact ⟨_, _, rfl⟩
  · exact ⟨_, _, rfl⟩
theorem Tx.kept {p : Nat → Prop} {w w' : World} {v : Value} {l : List ByteArray} (h : Tx w v l) (hk : Kept p w w') (hp : ∀ a n c, v = .slice (some a) n c → p a.block) : Tx w' v l := by
  rcases h.at_ with h | ⟨bk, o, cap, h1, h3, h4⟩
  · exact ⟨.inl h⟩
  · refine ⟨.inr ⟨bk, o, cap, h1, Nat.lt_of_lt_of_le h3 hk.size, fun j hj => ?_⟩⟩
    have e := hk.block bk h3 (hp _ _ _ h1)
    rw [show w'.cell? ⟨bk, o + j, none⟩ = w.cell? ⟨bk, o + j, none⟩ from by simp only [World.cell?, e]]
    exact h4 j hj
theorem Tx.below {w w' : World} {v : Value} {l : List ByteArray} (h : Tx w v l) (hb : Below w.heap.size w w') : Tx w' v l := h.kept (Kept.of_below (p := fun _ => True) hb) fun _ _ _ _ => trivial
theorem Tx.get {w : World} {a : Option Addr} {n c : Nat} {l : List ByteArray} (h : Tx w (.slice a n c) l) (j : Nat) (hj : j < l.length) : ∃ bk o, a = some ⟨bk, o, none⟩ ∧ bk < w.heap.size ∧
    w.cell? ⟨bk, o + j, none⟩ = some (.string (l.getD j ByteArray.empty)) := by
  rcases h.at_ with ⟨_, rfl⟩ | ⟨bk, o, cap, h1, h3, h4⟩
  · simp at hj
  · simp at h1
    obtain ⟨rfl, rfl, rfl⟩ := h1
    exact ⟨bk, o, rfl, h3, h4 j hj⟩
def Tv (s : ByteArray) : Value := .string s
theorem Tx.of_own {base : Nat} {w : World} {v : Value} {l : List ByteArray} (h : w.ownsRow base 9 1 v l.length (l.map Tv)) : Tx w v l := by
  rcases h.2 with ⟨rfl, h0⟩ | ⟨g, cap, cur, rfl, hg, hh, _⟩
  · exact ⟨.inl ⟨⟨_, _, rfl⟩, List.length_eq_zero_iff.1 h0⟩⟩
  · refine ⟨.inr ⟨g, 0, cap, rfl, (Array.getElem?_eq_some_iff.1 hh).1, fun j hj => ?_⟩⟩
    rw [Nat.zero_add, h.cellAt j (by omega), List.getElem?_map, List.getD_eq_getElem?_getD, List.getElem?_eq_getElem hj]
    rfl
theorem text_ne {s t : ByteArray} (h : ¬ s = t) : (s.toList == t.toList) = false := by
  rw [beq_eq_false_iff_ne]
  intro h'
  rw [Lib.toList_data, Lib.toList_data] at h'
  exact h (ByteArray.ext (Array.toList_inj.1 h'))
theorem tx_store {base g n cap : Nat} {w : World} {l : List ByteArray} (h : w.ownsRow base 9 1 (.slice (some ⟨g, 0, none⟩) n cap) n (l.map Tv)) (k : Nat) (x : ByteArray) :
    (w.setCell ⟨g, k, none⟩ (.string x)).ownsRow base 9 1 (.slice (some ⟨g, 0, none⟩) n cap) n ((l.set k x).map Tv) := by
  have := (h.stored k (.string x)).1
  rw [List.map_set]
  exact this
end Go.Proofs.YthpcbbkpjggjbaaGreatDoor
namespace Go.Proofs.YthpcbbkpjggjbaaGreatDoor
open Go.RowKit
set_option maxRecDepth 4000
def dl (l : List ByteArray) : List Nn.Name := l.map (·.data.toList)
def Cp (v : Value) : Prop := ∀ a n c, v = .slice a n c → n ≤ c
theorem Cp.none : Cp (.slice none 0 0) := fun a n c h => by cases h; exact Nat.le_refl _
theorem Cp.of_own {base : Nat} {e : TypeId} {w : World} {v : Value} {n : Nat} {xs : List Value} (h : w.ownsRow base e 1 v n xs) : Cp v := fun a m c hv => by
  rcases h.2 with ⟨rfl, h0⟩ | ⟨g, cap, cur, rfl, _, _, hle, _⟩
  · cases hv; exact Nat.le_refl _
  · cases hv; exact hle
def Few (l : List ByteArray) : Prop := ∀ s ∈ l, s.size ≤ 9223372036854775807
theorem dl_length (l : List ByteArray) : (dl l).length = l.length := by simp [dl]
theorem errsF_drop (l : List ByteArray) (k : Nat) (hk : k < l.length) : Nn.errsF k (dl (l.drop k)) = if 8 ≤ k then 14 else if Nn.nm (l.getD k ByteArray.empty).data.toList ≠ 0 then Nn.nm (l.getD k ByteArray.empty).data.toList else Nn.errsF (k + 1) (dl (l.drop (k + 1))) := by
  rw [List.drop_eq_getElem_cons hk, List.getD_eq_getElem?_getD, List.getElem?_eq_getElem hk]
  rfl
set_option maxHeartbeats 1000000 in
theorem all_any (v : Value) (l : List ByteArray) (w : World) (h : Tx w v l) (hl : l.length ≤ 140737488351232) (hf : Few l) (hT : Tabs w) :
    Calls Tryz.prog 60 #[v] w fun e w' => e = .returned (.int .i64 (Nn.errs (dl l))) ∧ Below w.heap.size w w' := by
  obtain ⟨a, c, rfl⟩ := h.slice
  have HS : Hid (Nn.errsF 0 (dl (l.drop 0)) = Nn.errs (dl l)) := rfl
  have HX : Hid (Tx w (.slice a l.length c) l) := h
  have HF : Hid (Few l) := hf
  have HT : Hid (Tabs w) := hT
  clear h hf hT
  obtain ⟨N, hN⟩ : ∃ N, N = l.length := ⟨_, rfl⟩
  have HN : Hid (N = l.length) := hN
  rw [← hN] at HX hl ⊢
  clear hN
  generalize Nn.errs (dl l) = Z at *
  go_enter Tryz.func60, Tryz.ntmps60
  go_wp2_with fail
  go_loopw [8] (fun i wr => ∃ k : Nat, k ≤ N ∧ i = .int .i64 k ∧ Hid (Nn.errsF k (dl (l.drop k)) = Z) ∧ Hid (Below w.heap.size w wr)) (fun i _ => N - (intOf i).toNat)
  case atStart => exact ⟨0, by omega, rfl, HS, Below.refl _ _⟩
  case round =>
    clear HS
    obtain ⟨k, hk, rfl, HS, HB⟩ := hrel
    by_cases hlt : k < N
    · obtain ⟨bk, o, rfl, hbk, c0⟩ := (HX.out.below HB.out).get k (by rw [← HN.out]; omega)
      have hz : (l.getD k ByteArray.empty).size ≤ 9223372036854775807 := by
        have hk' : k < l.length := by rw [← HN.out]; exact hlt
        rw [List.getD_eq_getElem?_getD, List.getElem?_eq_getElem hk']
        exact HF.out _ (List.getElem_mem hk')
      have HD : Hid (Z = if 8 ≤ k then 14 else if Nn.nm (l.getD k ByteArray.empty).data.toList ≠ 0 then Nn.nm (l.getD k ByteArray.empty).data.toList else Nn.errsF (k + 1) (dl (l.drop (k + 1)))) := by
        show _ = _
        rw [← errsF_drop _ _ (by rw [← HN.out]; omega)]; exact HS.out.symm
      have hq := check_any (l.getD k ByteArray.empty) wr hz (HT.out.below HB.out)
      generalize l.getD k ByteArray.empty = s at *
      generalize Nn.nm s.data.toList = E at *
      clear HS
      by_cases h8 : 8 ≤ k
      · have HZ : Hid (Z = 14) := by have := HD.out; rwa [if_pos h8] at this
        clear hq
        go_wp2_with fail
        go_ret
        exact ⟨by rw [HZ.out]; rfl, HB.out⟩
      · by_cases h0 : E = 0
        · have HZ : Hid (Nn.errsF (k + 1) (dl (l.drop (k + 1))) = Z) := by have := HD.out; rw [if_neg h8, if_neg (by simpa using h0)] at this; exact this.symm
          rw [h0] at hq
          clear h0 HD
          go_wp2_with fail
          refine hq.mono ?_
          rintro e u ⟨rfl, bu⟩
          have HB2 : Hid (Below w.heap.size w u) := HB.out.trans (bu.mono HB.out.size)
          clear bu
          go_wp2_with fail
          go_roundw
          case rel => exact ⟨k + 1, by omega, by go_num, HZ, HB2⟩
          case measure => simp only [intOf]; omega
        · have HZ : Hid (Z = E) := by have := HD.out; rwa [if_neg h8, if_pos h0] at this
          have hqn : (E != 0) = true := by rw [bne_iff_ne]; exact h0
          clear HD
          go_wp2_with fail
          refine hq.mono ?_
          rintro e u ⟨rfl, bu⟩
          have HB2 : Hid (Below w.heap.size w u) := HB.out.trans (bu.mono HB.out.size)
          clear bu
          go_wp2_with fail
          go_ret
          exact ⟨by rw [HZ.out]; rfl, HB2.out⟩
    · have HZ : Hid (Z = 0) := by
        have := HS.out
        rw [List.drop_eq_nil_of_le (by rw [← HN.out]; omega)] at this
        exact this.symm
      obtain rfl : k = N := by omega
      go_wp2_with fail
      go_ret
      exact ⟨by rw [HZ.out]; rfl, HB.out⟩
end Go.Proofs.YthpcbbkpjggjbaaGreatDoor
namespace Go.Proofs.YthpcbbkpjggjbaaGreatDoor
namespace Nn
open Go.Lib
theorem ix_cases (c : UInt8) : ∀ l : List UInt8, (indexByte l c = -1 ∧ c ∉ l) ∨ ∃ i : Nat, indexByte l c = i ∧ i < l.length ∧ l = l.take i ++ c :: l.drop (i + 1) ∧ c ∉ l.take i
  | [] => .inl ⟨rfl, by simp⟩
  | b :: l => by
    by_cases h : b = c
    · subst h
      exact .inr ⟨0, by simp [indexByte], by simp, by simp, by simp⟩
    · have hb : (b == c) = false := beq_eq_false_iff_ne.2 h
      rcases ix_cases c l with ⟨e, hn⟩ | ⟨i, e, h1, h2, h3⟩
      · exact .inl ⟨by rw [indexByte, hb, e]; rfl, by simp [hn, Ne.symm h]⟩
      · refine .inr ⟨i + 1, ?_, by simp; omega, by rw [List.take_succ_cons, List.drop_succ_cons, List.cons_append, ← h2], by simp [h3, Ne.symm h]⟩
        rw [indexByte, hb, e, if_neg (by simp), if_neg (by rw [beq_iff_eq]; omega)]
        omega
theorem cut_none {l : List UInt8} (h : indexByte l 47 = -1) : cut l = [l] := by
  rcases ix_cases 47 l with ⟨_, hn⟩ | ⟨i, e, _⟩
  · exact cut_plain hn
  · rw [h] at e; omega
theorem cut_at {l : List UInt8} {i : Nat} (h : indexByte l 47 = i) : cut l = l.take i :: cut (l.drop (i + 1)) := by
  rcases ix_cases 47 l with ⟨e, _⟩ | ⟨j, e, _, h2, h3⟩
  · rw [h] at e; omega
  · obtain rfl : i = j := by rw [h] at e; omega
    conv => lhs; rw [h2]
    rw [cut_slash, cut_plain h3]
    rfl
def spn : Nat → List UInt8 → List Name
  | 0, l => [l]
  | k + 1, l => if indexByte l 47 = -1 then [l] else l.take (indexByte l 47).toNat :: spn k (l.drop ((indexByte l 47).toNat + 1))
theorem spn_none {k : Nat} {l : List UInt8} (h : indexByte l 47 = -1) : spn k l = [l] := by
  cases k with
  | zero => rfl
  | succ k => rw [spn, if_pos h]
theorem spn_at {k i : Nat} {l : List UInt8} (h : indexByte l 47 = i) : spn (k + 1) l = l.take i :: spn k (l.drop (i + 1)) := by
  rw [spn, if_neg (by omega), h]
  rfl
theorem spn_more : ∀ (k m : Nat) (l : List UInt8), l.length ≤ k → l.length ≤ m → spn k l = spn m l := by
  intro k
  induction k with
  | zero =>
    intro m l h1 h2
    have hl := List.length_eq_zero_iff.1 (Nat.le_zero.1 h1)
    subst hl
    rw [spn_none (by rfl), spn_none (by rfl)]
  | succ k ih =>
    intro m l h1 h2
    rcases ix_cases 47 l with ⟨e, _⟩ | ⟨i, e, hi, _⟩
    · rw [spn_none e, spn_none e]
    · obtain ⟨m, rfl⟩ : ∃ m', m = m' + 1 := ⟨m - 1, by omega⟩
      rw [spn_at e, spn_at e, ih m _ (by rw [List.length_drop]; omega) (by rw [List.length_drop]; omega)]
theorem errs_spn : ∀ (k i : Nat) (l : List UInt8), i + k = 8 → errsF i (spn k l) = errsF i (cut l) := by
  intro k
  induction k with
  | zero =>
    intro i l h
    obtain rfl : i = 8 := by omega
    have hc := cut_ne l
    cases hx : cut l with
    | nil => exact absurd hx hc
    | cons a b => rfl
  | succ k ih =>
    intro i l h
    rcases ix_cases 47 l with ⟨e, _⟩ | ⟨j, e, _⟩
    · rw [spn_none e, cut_none e]
    · rw [spn_at e, cut_at e, errsF, errsF, ih (i + 1) _ (by omega)]
theorem spn_cut : ∀ (k i : Nat) (l : List UInt8), i + k = 8 → errsF i (cut l) = 0 → spn k l = cut l := by
  intro k
  induction k with
  | zero =>
    intro i l h h0
    obtain rfl : i = 8 := by omega
    have hc := cut_ne l
    cases hx : cut l with
    | nil => exact absurd hx hc
    | cons a b => rw [hx, errsF] at h0; simp at h0
  | succ k ih =>
    intro i l h h0
    rcases ix_cases 47 l with ⟨e, _⟩ | ⟨j, e, _⟩
    · rw [spn_none e, cut_none e]
    · rw [cut_at e, errsF, if_neg (by omega)] at h0
      rw [spn_at e, cut_at e]
      split at h0
      · rename_i q; exact absurd h0 q
      · rw [ih (i + 1) _ (by omega) h0]
def spB : Nat → ByteArray → List ByteArray
  | 0, s => [s]
  | k + 1, s => if indexByte s.data.toList 47 = -1 then [s] else s.extract 0 (indexByte s.data.toList 47).toNat :: spB k (s.extract ((indexByte s.data.toList 47).toNat + 1) s.size)
theorem spB_none {k : Nat} {s : ByteArray} (h : indexByte s.data.toList 47 = -1) : spB k s = [s] := by
  cases k with
  | zero => rfl
  | succ k => rw [spB, if_pos h]
theorem spB_at {k i : Nat} {s : ByteArray} (h : indexByte s.data.toList 47 = i) : spB (k + 1) s = s.extract 0 i :: spB k (s.extract (i + 1) s.size) := by
  rw [spB, if_neg (by omega), h]
  rfl
theorem ext_drop (s : ByteArray) (i : Nat) : (s.extract i s.size).data.toList = s.data.toList.drop i := by
  rw [ByteArray.data_extract, Array.toList_extract, List.extract_eq_take_drop]
  exact List.take_of_length_le (by rw [List.length_drop, ← Lib.size_eq]; omega)
theorem spB_spn : ∀ (k : Nat) (s : ByteArray), (spB k s).map (·.data.toList) = spn k s.data.toList := by
  intro k
  induction k with
  | zero => intro s; rfl
  | succ k ih =>
    intro s
    rcases ix_cases 47 s.data.toList with ⟨e, _⟩ | ⟨i, e, _⟩
    · rw [spB_none e, spn_none e]; rfl
    · rw [spB_at e, spn_at e, List.map_cons, ih, Lib.extract_from_zero, ext_drop]
theorem spB_len : ∀ (k : Nat) (s : ByteArray), 1 ≤ (spB k s).length ∧ (spB k s).length ≤ k + 1 := by
  intro k
  induction k with
  | zero => intro s; exact ⟨Nat.le_refl _, Nat.le_refl _⟩
  | succ k ih =>
    intro s
    rcases ix_cases 47 s.data.toList with ⟨e, _⟩ | ⟨i, e, _⟩
    · rw [spB_none e]; exact ⟨Nat.le_refl _, by simp⟩
    · rw [spB_at e]
      have := (ih (s.extract (i + 1) s.size)).2
      simp only [List.length_cons]
      omega
theorem spB_size : ∀ (k : Nat) (s t : ByteArray), t ∈ spB k s → t.size ≤ s.size := by
  intro k
  induction k with
  | zero => intro s t h; rw [List.mem_singleton.1 h]; exact Nat.le_refl _
  | succ k ih =>
    intro s t h
    rcases ix_cases 47 s.data.toList with ⟨e, _⟩ | ⟨i, e, _⟩
    · rw [spB_none e] at h; rw [List.mem_singleton.1 h]; exact Nat.le_refl _
    · rw [spB_at e] at h
      rcases List.mem_cons.1 h with rfl | h
      · rw [ByteArray.size_extract]; omega
      · have := ih _ _ h
        rw [ByteArray.size_extract] at this
        omega
end Nn
end Go.Proofs.YthpcbbkpjggjbaaGreatDoor
namespace Go.Proofs
open Go.Shelf
def Tryz.lays219_ren : Go.Shelf.Ren := ⟨fun | 219 => 108 | 217 => 120 | 225 => 121 | 224 => 122 | 267 => 123 | 266 => 131 | 314 => 132 | n => n, fun | 9 => 9 | 3 => 3 | 4 => 4 | 5 => 5 | 46 => 167 | 146 => 155 | 51 => 154 | n => n, fun | 1 => 0 | n => n⟩
def Tryz.lays143_ren : Go.Shelf.Ren := ⟨fun | 143 => 87 | 219 => 108 | 217 => 120 | 225 => 121 | 224 => 122 | 267 => 123 | 266 => 131 | 314 => 132 | n => n, fun | 9 => 9 | 3 => 3 | 4 => 4 | 5 => 5 | 46 => 167 | 146 => 155 | 51 => 154 | n => n, fun | 1 => 0 | n => n⟩
theorem Tryz.lays143 : Go.Proofs.Lays.n143 Tryz.prog Tryz.lays143_ren := {
  mixed := by kernel_rfl
  f143 := Tryz.func87.trans (congrArg some (by kernel_rfl))
  f217 := Tryz.func120.trans (congrArg some (by kernel_rfl))
  f219 := Tryz.func108.trans (congrArg some (by kernel_rfl))
  f224 := Tryz.func122.trans (congrArg some (by kernel_rfl))
  f225 := Tryz.func121.trans (congrArg some (by kernel_rfl))
  f266 := Tryz.func131.trans (congrArg some (by kernel_rfl))
  f267 := Tryz.func123.trans (congrArg some (by kernel_rfl))
  f314 := Tryz.func132.trans (congrArg some (by kernel_rfl))
  t3 := Tryz.underlying3
  a3 := Tryz.isAgg3
  z3 := Tryz.sizeOf3
  v3 := Tryz.zeroValue3
  t4 := Tryz.underlying4
  a4 := Tryz.isAgg4
  z4 := Tryz.sizeOf4
  v4 := Tryz.zeroValue4
  t5 := Tryz.underlying5
  a5 := Tryz.isAgg5
  z5 := Tryz.sizeOf5
  v5 := Tryz.zeroValue5
  t9 := Tryz.underlying9
  a9 := Tryz.isAgg9
  z9 := Tryz.sizeOf9
  v9 := Tryz.zeroValue9
  t46 := Tryz.underlying167
  a46 := Tryz.isAgg167
  z46 := Tryz.sizeOf167
  v46 := Tryz.zeroValue167
  t51 := Tryz.underlying154
  a51 := Tryz.isAgg154
  z51 := Tryz.sizeOf154
  v51 := Tryz.zeroValue154
  t146 := Tryz.underlying155
  a146 := Tryz.isAgg155
  z146 := Tryz.sizeOf155
  v146 := Tryz.zeroValue155
  g1 := by kernel_rfl }
open Go.RowKit Go.Lib in
theorem Tryz.strings_Index_one (s : ByteArray) (c : UInt8) (w : World) :
    Calls Tryz.prog 87 #[.string s, .string ⟨#[c]⟩] w fun e w' => e = .returned (.int .i64 (Lib.indexByte s.data.toList c)) ∧ w' = w := Any.strings_Index_one Tryz.lays143 s c w
end Go.Proofs
namespace Go.Proofs.YthpcbbkpjggjbaaGreatDoor
open Go.RowKit Go.Lib
set_option maxHeartbeats 1000000 in
theorem gen_any (s : ByteArray) (w : World) (hs : s.size ≤ 140737488355328) (n : Int) (hn : 1 ≤ n) (hn9 : n ≤ 9) (N : Nat) (hN : (N : Int) = min n ((s.size : Int) + 1)) :
    Calls Tryz.prog 74 #[.string s, .string ⟨#[47]⟩, .int .i64 0, .int .i64 n] w fun e w' =>
      e = .returned (.slice (some ⟨w.heap.size, 0, none⟩) (Nn.spB (N - 1) s).length N) ∧ w' = w.alloc (.cells (Lib.cellsOf (Nn.spB (N - 1) s) N) 9) := by
  have hN1 : 1 ≤ N := by omega
  have hNs : N ≤ s.size + 1 := by omega
  have hN9 : N ≤ 9 := by omega
  have hmk := run_make_row' (P := Tryz.prog) 89 9 (.string ByteArray.empty) 16 Tryz.underlying89 (by kernel_rfl) rfl .i64 .i64 N (by omega) (by omega)
  have hne : (n == 0) = false := beq_eq_false_iff_ne.2 (by omega)
  have hng : ¬ n < 0 := by omega
  have hNi : min n ((s.size : Int) + 1) = (N : Int) := hN.symm
  clear hN
  go_enter Tryz.func74, Tryz.ntmps74
  go_wp2_with fail
  clear hmk
  go_loopg [0, 10] (N - 1) (fun g s0 s10 wr => ∃ (done : List ByteArray) (rest : ByteArray), s0 = .string rest ∧ s10 = .int .i64 done.length ∧ done.length ≤ N - 1 ∧ g = N - 1 - done.length ∧ rest.size ≤ s.size ∧
      wr = w.alloc (.cells (Lib.cellsOf done N) 9) ∧ done ++ Nn.spB (N - 1 - done.length) rest = Nn.spB (N - 1) s)
  case atStart => exact ⟨[], s, rfl, rfl, Nat.zero_le _, rfl, Nat.le_refl _, by rw [Lib.cellsOf_nil], rfl⟩
  case round =>
    obtain ⟨done, rest, rfl, rfl, hd, rfl, hrs, rfl, hsp⟩ := hrel
    have hnext : (Lib.cellsOf done N)[done.length]? = some (.string ByteArray.empty) := Lib.cellsOf_next (by omega)
    have HS : Hid (done ++ Nn.spB (N - 1 - done.length) rest = Nn.spB (N - 1) s) := hsp
    clear hsp
    have HFin : Hid (Nn.spB (N - 1 - done.length) rest = [rest] → (Nn.spB (N - 1) s).length = done.length + 1 ∧ (Lib.cellsOf done N).setIfInBounds done.length (.string rest) = Lib.cellsOf (Nn.spB (N - 1) s) N) := fun h => by
      have e := HS.out
      rw [h] at e
      rw [← e]
      exact ⟨by simp, Lib.cellsOf_set (by omega) rest⟩
    by_cases hlt : done.length < N - 1
    · have hltz : ((done.length : Nat) : Int) < (N : Int) - 1 := by omega
      have hI := Tryz.strings_Index_one rest 47 (w.alloc (.cells (Lib.cellsOf done N) 9))
      rcases Nn.ix_cases 47 rest.data.toList with ⟨hix, _⟩ | ⟨i, hix, hroom, _⟩
      · rw [hix] at hI
        go_wp2_with fail
        refine hI.mono ?_
        rintro e w' ⟨rfl, hw⟩
        rw [hw]
        go_wp2_with fail
        go_ret
        obtain ⟨f1, f2⟩ := HFin.out (Nn.spB_none hix)
        rw [f1, ← f2]
        exact ⟨by first | rfl | (congr 2 <;> omega), rfl⟩
      · rw [← Lib.size_eq] at hroom
        have c0 : ¬ ((i : Int) < 0) := by omega
        have c2 : (↑i : Int) ≤ ↑rest.size := by omega
        have c4 : (↑i + 1 : Int) ≤ ↑rest.size := by omega
        have c3 : (0 : Int) ≤ ↑i + 1 := by omega
        have HX : Hid (indexByte rest.data.toList 47 = i) := hix
        rw [hix] at hI
        clear hix
        go_wp2_with fail
        refine hI.mono ?_
        rintro e w' ⟨rfl, hw⟩
        rw [hw]
        clear hw hI
        go_wp2_with fail
        go_roundg (N - 1 - (done.length + 1))
        case measure => omega
        case rel =>
          refine ⟨done ++ [rest.extract 0 i], rest.extract (i + 1) rest.size, rfl, by simp, by simp; omega, by simp, by rw [ByteArray.size_extract]; omega, by rw [← Lib.cellsOf_set (by omega)], ?_⟩
          rw [← HS.out, show N - 1 - done.length = (N - 1 - (done.length + 1)) + 1 by omega, Nn.spB_at HX.out]
          simp
    · have hltz : ¬ (((done.length : Nat) : Int) < (N : Int) - 1) := by omega
      go_wp2_with fail
      go_ret
      obtain ⟨f1, f2⟩ := HFin.out (by rw [show N - 1 - done.length = 0 by omega]; rfl)
      rw [f1, ← f2]
      exact ⟨by first | rfl | (congr 2 <;> omega), rfl⟩
theorem cells_own (w : World) (l : List ByteArray) (N : Nat) (h1 : l.length ≤ N) (hN : N ≤ 9) :
    (w.alloc (.cells (Lib.cellsOf l N) 9)).ownsRow w.heap.size 9 1 (.slice (some ⟨w.heap.size, 0, none⟩) l.length N) l.length (l.map Tv) := by
  refine ⟨by simp, .inr ⟨w.heap.size, N, _, rfl, Nat.le_refl _, heap_alloc_new w _, h1, by unfold maxLen; omega, by rw [Lib.cellsOf_size h1, Nat.mul_one], ?_⟩⟩
  unfold Lib.cellsOf
  rw [Nat.mul_one, List.take_left' (by simp)]
  rfl
theorem splitN_any (s : ByteArray) (w : World) (hs : s.size ≤ 140737488355328) :
    Calls Tryz.prog 59 #[.string s, .string ⟨#[47]⟩, .int .i64 9] w fun e w' => ∃ N, e = .returned (.slice (some ⟨w.heap.size, 0, none⟩) (Nn.spB 8 s).length N) ∧
      w'.ownsRow w.heap.size 9 1 (.slice (some ⟨w.heap.size, 0, none⟩) (Nn.spB 8 s).length N) (Nn.spB 8 s).length ((Nn.spB 8 s).map Tv) ∧ Below w.heap.size w w' := by
  obtain ⟨N, hN⟩ : ∃ N, N = min 9 (s.size + 1) := ⟨_, rfl⟩
  have hg := gen_any s w hs 9 (by omega) (by omega) N (by omega)
  have he : Nn.spB (N - 1) s = Nn.spB 8 s := by
    rcases Nat.lt_or_ge s.size 9 with h | h
    · have hm : (Nn.spB (N - 1) s).map (·.data.toList) = (Nn.spB 8 s).map (·.data.toList) := by
        rw [Nn.spB_spn, Nn.spB_spn, Nn.spn_more (N - 1) 8 _ (by rw [← Lib.size_eq]; omega) (by rw [← Lib.size_eq]; omega)]
      refine List.map_inj_right (f := fun x : ByteArray => x.data.toList) (fun x y h => ?_) |>.1 hm
      exact ByteArray.ext (Array.toList_inj.1 h)
    · rw [show N - 1 = 8 by omega]
  rw [he] at hg
  have hl := (Nn.spB_len (N - 1) s).2
  rw [he] at hl
  have HO : Hid ((w.alloc (.cells (Lib.cellsOf (Nn.spB 8 s) N) 9)).ownsRow w.heap.size 9 1 (.slice (some ⟨w.heap.size, 0, none⟩) (Nn.spB 8 s).length N) (Nn.spB 8 s).length ((Nn.spB 8 s).map Tv)) := cells_own w _ N (by omega) (by omega)
  generalize Nn.spB 8 s = l at *
  clear he hN
  go_enter Tryz.func59, Tryz.ntmps59
  go_wp2_with fail
  refine hg.mono ?_
  rintro e w' ⟨rfl, hw⟩
  rw [hw]
  clear hg hw
  go_wp2_with fail
  go_ret
  exact ⟨N, rfl, HO.out, (Below.refl _ w).alloc (Nat.le_refl _) _⟩
end Go.Proofs.YthpcbbkpjggjbaaGreatDoor
namespace Go.Proofs
open Go.Shelf
def Tryz.lays99_ren : Go.Shelf.Ren := ⟨fun | 99 => 58 | 206 => 73 | n => n, fun | 9 => 9 | 4 => 4 | 3 => 3 | n => n, fun | n => n⟩
theorem Tryz.lays99 : Go.Proofs.Lays.n99 Tryz.prog Tryz.lays99_ren := {
  mixed := by kernel_rfl
  f99 := Tryz.func58.trans (congrArg some (by kernel_rfl))
  f206 := Tryz.func73.trans (congrArg some (by kernel_rfl))
  t3 := Tryz.underlying3
  a3 := Tryz.isAgg3
  z3 := Tryz.sizeOf3
  v3 := Tryz.zeroValue3
  t4 := Tryz.underlying4
  a4 := Tryz.isAgg4
  z4 := Tryz.sizeOf4
  v4 := Tryz.zeroValue4
  t9 := Tryz.underlying9
  a9 := Tryz.isAgg9
  z9 := Tryz.sizeOf9
  v9 := Tryz.zeroValue9 }
open Go.RowKit Go.Lib in
theorem Tryz.strings_HasPrefix (s p : ByteArray) (w : World) :
    Calls Tryz.prog 58 #[.string s, .string p] w fun e w' => e = .returned (.bool (Lib.hasPrefix s.data.toList p.data.toList)) ∧ w' = w := Any.strings_HasPrefix Tryz.lays99 s p w
end Go.Proofs
namespace Go.Proofs
open Go.Shelf
def Tryz.laysM316_ren : Go.Shelf.Ren := ⟨fun | 316 => 57 | n => n, fun | 9 => 9 | 3 => 3 | 4 => 4 | 37 => 129 | 0 => 0 | 127 => 139 | 5 => 5 | n => n, fun | n => n⟩
theorem Tryz.laysM316 : Go.Proofs.LaysM.n316 Tryz.prog Tryz.laysM316_ren := {
  mixed := by kernel_rfl
  f316 := Tryz.func57.trans (congrArg some (by kernel_rfl))
  t0 := Tryz.underlying0
  a0 := Tryz.isAgg0
  z0 := Tryz.sizeOf0
  v0 := Tryz.zeroValue0
  t3 := Tryz.underlying3
  a3 := Tryz.isAgg3
  z3 := Tryz.sizeOf3
  v3 := Tryz.zeroValue3
  t4 := Tryz.underlying4
  a4 := Tryz.isAgg4
  z4 := Tryz.sizeOf4
  v4 := Tryz.zeroValue4
  t9 := Tryz.underlying9
  a9 := Tryz.isAgg9
  z9 := Tryz.sizeOf9
  v9 := Tryz.zeroValue9
  t37 := Tryz.underlying129
  a37 := Tryz.isAgg129
  z37 := Tryz.sizeOf129
  v37 := Tryz.zeroValue129
  t127 := Tryz.underlying139
  a127 := Tryz.isAgg139
  z127 := Tryz.sizeOf139
  v127 := Tryz.zeroValue139
  t5 := Tryz.underlying5
  a5 := Tryz.isAgg5
  z5 := Tryz.sizeOf5
  v5 := Tryz.zeroValue5
  i0 := by kernel_rfl
  i3 := by kernel_rfl
  i4 := by kernel_rfl
  i5 := by kernel_rfl
  i9 := by kernel_rfl
  i37 := by kernel_rfl
  i127 := by kernel_rfl }
open Go.RowKit in
theorem Tryz.stringslite_Clone (s : ByteArray) (w : World) (hlim : s.size ≤ 281474976710656) :
    Calls Tryz.prog 57 #[.string s] w fun e w' => e = .returned (.string s) ∧ Below w.heap.size w w' := Any.stringslite_Clone Tryz.laysM316 s w hlim
end Go.Proofs
namespace Go.Proofs.YthpcbbkpjggjbaaGreatDoor
open Go.RowKit
set_option maxRecDepth 4000
theorem clone_any (s : ByteArray) (w : World) (hs : s.size ≤ 140737488355328) :
    Calls Tryz.prog 41 #[.string s] w fun e w' => e = .returned (.string s) ∧ Below w.heap.size w w' := by
  go_enter Tryz.func41, Tryz.ntmps41
  go_wp2_with (refine (Tryz.stringslite_Clone _ _ (by omega)).mono ?_; rintro e w' ⟨rfl, hb⟩)
  go_ret
  exact ⟨rfl, hb⟩
def SpOut (p : ByteArray) (w : World) (e : Ending) (w' : World) : Prop :=
  ∃ v l, e = .returned (.tuple #[v, .int .i64 (Nn.split p.data.toList).2]) ∧ dl l = (Nn.split p.data.toList).1 ∧ Tx w' v l ∧ Cp v ∧ Below w.heap.size w w'
theorem Tx.none (w : World) : Tx w (.slice none 0 0) [] := ⟨.inl ⟨⟨_, _, rfl⟩, rfl⟩⟩
theorem hasPre_slash (s : ByteArray) : Lib.hasPrefix s.data.toList [47] = decide (s.data.toList.head? = some 47) := by
  cases s.data.toList with
  | nil => rfl
  | cons b l =>
    show (([47] : List UInt8).isPrefixOf (b :: l)) = _
    simp only [List.isPrefixOf, Bool.and_true, List.head?_cons, Option.some.injEq]
    by_cases h : b = 47
    · subst h; rfl
    · rw [decide_eq_false h, beq_eq_false_iff_ne]; exact fun e => h e.symm
set_option maxHeartbeats 1000000 in
theorem split_root (w : World) :
    Calls Tryz.prog 43 #[.string ⟨#[47]⟩] w fun e w' => e = .returned (.tuple #[.slice none 0 0, .int .i64 0]) ∧ w' = w := by
  go_enter Tryz.func43, Tryz.ntmps43
  go_wp2_with fail
  go_ret2
  exact ⟨rfl, rfl⟩
set_option maxHeartbeats 1000000 in
theorem split_no (p : ByteArray) (w : World) (h1 : p.data.toList ≠ [47]) (h : p.data.toList.head? ≠ some 47) :
    Calls Tryz.prog 43 #[.string p] w fun e w' => e = .returned (.tuple #[.slice none 0 0, .int .i64 8]) ∧ w' = w := by
  have e1 : (p.toList == [47]) = false := data_ne h1
  have hq := Tryz.strings_HasPrefix p ⟨#[47]⟩ w
  rw [show (⟨#[47]⟩ : ByteArray).data.toList = [47] from rfl, hasPre_slash, decide_eq_false h] at hq
  clear h h1
  go_enter Tryz.func43, Tryz.ntmps43
  go_wp2_with fail
  refine hq.mono ?_
  rintro e u ⟨rfl, hu⟩
  obtain rfl := hu.symm
  go_wp2_with fail
  go_ret2
  exact ⟨rfl, rfl⟩
set_option maxHeartbeats 1000000 in
theorem split_bad (p : ByteArray) (w : World) (hp : p.size ≤ 140737488355328) (hT : Tabs w) (h1 : p.data.toList ≠ [47]) (h : p.data.toList.head? = some 47) (l : List ByteArray) (hl : l = Nn.spB 8 (p.extract 1 p.size)) (E : Int) (hE : E = Nn.errs (dl l)) (h0 : E ≠ 0) :
    Calls Tryz.prog 43 #[.string p] w fun e w' => e = .returned (.tuple #[.slice none 0 0, .int .i64 E]) ∧ Below w.heap.size w w' := by
  have e1 : (p.toList == [47]) = false := data_ne h1
  have hq := Tryz.strings_HasPrefix p ⟨#[47]⟩ w
  rw [show (⟨#[47]⟩ : ByteArray).data.toList = [47] from rfl, hasPre_slash, decide_eq_true h] at hq
  have h1p : 1 ≤ p.size := by
    rw [Lib.size_eq]
    cases hx : p.data.toList with
    | nil => rw [hx] at h; cases h
    | cons a b => simp
  have h1z : (1 : Int) ≤ (p.size : Int) := by omega
  have hz : (p.extract 1 p.size).size ≤ 140737488355328 := by rw [ByteArray.size_extract]; omega
  have hs := splitN_any (p.extract 1 p.size) w hz
  rw [← hl] at hs
  have HF : Hid (Few l) := fun t ht => by
    rw [hl] at ht
    have := Nn.spB_size _ _ _ ht
    omega
  have HL : Hid (l.length ≤ 9) := by
    show _ ≤ _
    rw [hl]; exact (Nn.spB_len 8 _).2
  have HT : Hid (Tabs w) := hT
  have HE : Hid (E = Nn.errs (dl l)) := hE
  have hqn : (E != 0) = true := by rw [bne_iff_ne]; exact h0
  clear h h1 hz hl hT hE
  go_enter Tryz.func43, Tryz.ntmps43
  go_wp2_with fail
  refine hq.mono ?_
  rintro e u ⟨rfl, hu⟩
  obtain rfl := hu.symm
  go_wp2_with fail
  refine hs.mono ?_
  rintro e w1 ⟨N, rfl, o1, b1⟩
  have ha := all_any _ l w1 (Tx.of_own o1) (by have := HL.out; omega) HF.out (HT.out.below b1)
  rw [← HE.out] at ha
  have HB : Hid (Below w.heap.size w w1) := b1
  clear o1 b1
  go_wp2_with fail
  refine ha.mono ?_
  rintro e w2 ⟨rfl, b2⟩
  have HB2 : Hid (Below w.heap.size w w2) := HB.out.trans (b2.mono HB.out.size)
  clear b2
  go_wp2_with fail
  go_ret2
  exact ⟨rfl, HB2.out⟩
set_option maxHeartbeats 1000000 in
theorem split_ok (p : ByteArray) (w : World) (hp : p.size ≤ 140737488355328) (hT : Tabs w) (h1 : p.data.toList ≠ [47]) (h : p.data.toList.head? = some 47) (l : List ByteArray) (hl : l = Nn.spB 8 (p.extract 1 p.size)) (hE : Nn.errs (dl l) = 0) :
    Calls Tryz.prog 43 #[.string p] w fun e w' => ∃ v, e = .returned (.tuple #[v, .int .i64 0]) ∧ w'.ownsRow w.heap.size 9 1 v l.length (l.map Tv) ∧ Below w.heap.size w w' := by
  have e1 : (p.toList == [47]) = false := data_ne h1
  have hq := Tryz.strings_HasPrefix p ⟨#[47]⟩ w
  rw [show (⟨#[47]⟩ : ByteArray).data.toList = [47] from rfl, hasPre_slash, decide_eq_true h] at hq
  have h1p : 1 ≤ p.size := by
    rw [Lib.size_eq]
    cases hx : p.data.toList with
    | nil => rw [hx] at h; cases h
    | cons a b => simp
  have h1z : (1 : Int) ≤ (p.size : Int) := by omega
  have hz : (p.extract 1 p.size).size ≤ 140737488355328 := by rw [ByteArray.size_extract]; omega
  have hs := splitN_any (p.extract 1 p.size) w hz
  rw [← hl] at hs
  have HF : Hid (∀ t ∈ l, t.size ≤ 140737488355328) := fun t ht => by
    rw [hl] at ht
    have := Nn.spB_size _ _ _ ht
    omega
  have HL : Hid (l.length ≤ 9) := by
    show _ ≤ _
    rw [hl]; exact (Nn.spB_len 8 _).2
  have HT : Hid (Tabs w) := hT
  have HE : Hid (Nn.errs (dl l) = 0) := hE
  clear h h1 hz hl hT hE
  go_enter Tryz.func43, Tryz.ntmps43
  go_wp2_with fail
  refine hq.mono ?_
  rintro e u ⟨rfl, hu⟩
  obtain rfl := hu.symm
  go_wp2_with fail
  refine hs.mono ?_
  rintro e w1 ⟨N, rfl, o1, b1⟩
  have ha := all_any _ l w1 (Tx.of_own o1) (by have := HL.out; omega) (fun t ht => Nat.le_trans (HF.out t ht) (by omega)) (HT.out.below b1)
  rw [HE.out] at ha
  have HB : Hid (Below w.heap.size w w1) := b1
  have HO : Hid (w1.ownsRow w.heap.size 9 1 (.slice (some ⟨w.heap.size, 0, none⟩) l.length N) l.length (l.map Tv)) := o1
  clear o1 b1 hs
  go_wp2_with fail
  refine ha.mono ?_
  rintro e w2 ⟨rfl, b2⟩
  have HB2 : Hid (Below w.heap.size w w2) := HB.out.trans (b2.mono HB.out.size)
  have HO2 : Hid (w2.ownsRow w.heap.size 9 1 (.slice (some ⟨w.heap.size, 0, none⟩) l.length N) l.length (l.map Tv)) := own_below HO.out b2
  obtain ⟨B, hB⟩ : ∃ B, B = w.heap.size := ⟨_, rfl⟩
  have HBe : Hid (B = w.heap.size) := hB
  rw [← hB] at HB2 HO2 ⊢
  clear b2 HB HO ha hB
  obtain ⟨M, hM⟩ : ∃ M, M = l.length := ⟨_, rfl⟩
  have HM : Hid (M = l.length) := hM
  rw [← hM] at HO2 ⊢
  have hM9 : M ≤ 9 := by rw [hM]; exact HL.out
  clear hM HL
  go_wp2_with fail
  go_loopw [23] (fun i wr => ∃ k : Nat, k ≤ M ∧ i = .int .i64 k ∧ Hid (wr.ownsRow B 9 1 (.slice (some ⟨B, 0, none⟩) M N) M (l.map Tv)) ∧ Hid (Below B w wr)) (fun i _ => M - (intOf i).toNat)
  case atStart => exact ⟨0, by omega, rfl, HO2, HB2⟩
  case round =>
    clear HO2 HB2
    obtain ⟨k, hk, rfl, HO, HB⟩ := hrel
    by_cases hlt : k < M
    · have hk' : k < l.length := by rw [← HM.out]; exact hlt
      have c0 : wr.cell? ⟨B, k, none⟩ = some (.string l[k]) := by
        rw [HO.out.cellAt k (by omega), List.getElem?_map, List.getElem?_eq_getElem hk']
        rfl
      have hz : l[k].size ≤ 140737488355328 := HF.out _ (List.getElem_mem hk')
      have HS : Hid (l.set k l[k] = l) := List.set_getElem_self hk'
      have hbk : B < wr.heap.size := World.block_lt_of_cell? wr _ c0
      generalize l[k] = t at *
      have hc := fun u => clone_any t u hz
      go_wp2_with fail
      refine (hc _).mono ?_
      rintro e w3 ⟨rfl, b3⟩
      have HO3 : Hid (w3.ownsRow B 9 1 (.slice (some ⟨B, 0, none⟩) M N) M (l.map Tv)) := own_below HO.out b3
      have HB3 : Hid (Below B w w3) := HB.out.trans (b3.mono (by omega))
      have c3 : w3.cell? ⟨B, k, none⟩ = some (.string t) := (b3.cell (p := ⟨B, k, none⟩) hbk).trans c0
      have f3 : w3.frozen? ⟨B, k, none⟩ = false := HO3.out.frozenAt k
      clear b3 HO HB c0
      go_wp2_with fail
      go_roundw
      case rel =>
        refine ⟨k + 1, by omega, by go_num, ?_, HB3.out.setCell (by simp) _⟩
        have := tx_store HO3.out k t
        rw [HS.out] at this
        exact this
      case measure => simp only [intOf]; omega
    · obtain rfl : k = M := by omega
      go_wp2_with fail
      go_ret2
      refine ⟨_, rfl, ?_, ?_⟩
      · rw [← HBe.out, ← HM.out]; exact HO.out
      · rw [← HBe.out]; exact HB.out
theorem split_any (p : ByteArray) (w : World) (hp : p.size ≤ 140737488355328) (hT : Tabs w) :
    Calls Tryz.prog 43 #[.string p] w (SpOut p w) := by
  by_cases h : p.data.toList.head? = some 47
  · by_cases h1 : p.data.toList = [47]
    · obtain rfl := of_data h1
      refine (split_root w).mono ?_
      rintro e w' ⟨rfl, rfl⟩
      exact ⟨_, [], rfl, rfl, Tx.none _, Cp.none, Below.refl _ _⟩
    · have hd : dl (Nn.spB 8 (p.extract 1 p.size)) = Nn.spn 8 p.data.toList.tail := by
        rw [dl, Nn.spB_spn, Nn.ext_drop, List.drop_one]
      have he : Nn.errs (dl (Nn.spB 8 (p.extract 1 p.size))) = Nn.errs (Nn.cut p.data.toList.tail) := by
        rw [hd]; exact Nn.errs_spn 8 0 _ rfl
      by_cases h0 : Nn.errs (Nn.cut p.data.toList.tail) = 0
      · have hs : Nn.split p.data.toList = (Nn.cut p.data.toList.tail, 0) := by
          unfold Nn.split
          rw [if_neg (by simpa using h), if_neg h1, if_neg (by simpa using h0)]
        refine (split_ok p w hp hT h1 h _ rfl (he.trans h0)).mono ?_
        rintro e w' ⟨v, rfl, o, b⟩
        refine ⟨v, _, by rw [hs], ?_, Tx.of_own o, Cp.of_own o, b⟩
        rw [hs, hd]
        exact Nn.spn_cut 8 0 _ rfl h0
      · have hs : Nn.split p.data.toList = ([], Nn.errs (Nn.cut p.data.toList.tail)) := by
          unfold Nn.split
          rw [if_neg (by simpa using h), if_neg h1, if_pos h0]
        refine (split_bad p w hp hT h1 h _ rfl _ he.symm h0).mono ?_
        rintro e w' ⟨rfl, b⟩
        exact ⟨_, [], by rw [hs], by rw [hs]; rfl, Tx.none _, Cp.none, b⟩
  · have hs : Nn.split p.data.toList = ([], 8) := by
      unfold Nn.split
      rw [if_pos h]
    refine (split_no p w (fun e => h (by rw [e]; rfl)) h).mono ?_
    rintro e w' ⟨rfl, rfl⟩
    exact ⟨_, [], by rw [hs], by rw [hs]; rfl, Tx.none _, Cp.none, Below.refl _ _⟩
end Go.Proofs.YthpcbbkpjggjbaaGreatDoor
namespace Go.Proofs.YthpcbbkpjggjbaaGreatDoor
open Go.RowKit
structure Since (B : Nat) (W0 : World) where
  val : World
  property : Below B W0 val
theorem wp_region_since {P : Program} {id : Nat} {Q : Exit → Act → World → Prop} {a : Act} {w : World} {l : List Oper} {B : Nat} {W0 : World} (hm : P.follows .mixedOrders = true) (hB : Region.lexB .any l.toArray = true) (hw : Below B W0 w)
    (h : wpQuiet P l.toArray (fun w' => ∃ X : Since B W0, w' = X.val) (fun a' => ∀ w', (∃ X : Since B W0, w' = X.val) → Q .normal a' w') l a) : (Code.region id l.toArray true).wp P Q a w :=
  wp_region_quiet (C := fun w' => ∃ X : Since B W0, w' = X.val) hm hB ⟨⟨_, hw.drew⟩, rfl⟩ h
theorem quiet_since {P : Program} {f : FuncId} {args : Array Value} {W0 : World} {v : Value} (X : Since W0.heap.size W0) (h : Calls P f args X.val fun e w' => e = .returned v ∧ Below X.val.heap.size X.val w') :
    Calls P f args X.val fun e w'' => e = .returned v ∧ ∃ Y : Since W0.heap.size W0, w'' = Y.val :=
  h.mono fun _ w' ⟨he, hb⟩ => ⟨he, ⟨w', X.property.trans (hb.mono X.property.size)⟩, rfl⟩
end Go.Proofs.YthpcbbkpjggjbaaGreatDoor
namespace Go.Proofs.YthpcbbkpjggjbaaGreatDoor
open Go.RowKit
def closedB (md : Region.Mode) (ops : Array Oper) (listed : Array Bool) : Bool :=
  (List.range ops.size).all fun j => !listed.getD j false || (match ops[j]? with | none => true | some o => o.after.all fun e => !Region.binds md e || listed.getD e.on false)
def lists : Nat → List (List Bool)
  | 0 => [[]]
  | n + 1 => (lists n).flatMap fun l => [true :: l, false :: l]
theorem mem_lists (l : List Bool) : ∀ n, l.length = n → l ∈ lists n := by
  induction l with
  | nil => intro n h; subst h; simp [lists]
  | cons b l ih =>
    intro n h
    subst h
    rw [List.length_cons, lists, List.mem_flatMap]
    refine ⟨l, ih _ rfl, ?_⟩
    cases b <;> simp
def lastB (md : Region.Mode) (ops : Array Oper) (z : Nat) : Bool :=
  (lists ops.size).all fun l => !closedB md ops l.toArray || ((l.toArray.getD z true || !(Region.ready md ops l.toArray).isEmpty) && (!(Region.ready md ops l.toArray).contains z || (Region.ready md ops (l.toArray.setIfInBounds z true)).isEmpty))
theorem getD_set_other {listed : Array Bool} {i j : Nat} (d : Bool) (h : j ≠ i) : (listed.setIfInBounds i true).getD j d = listed.getD j d := by
  rw [Array.getD_eq_getD_getElem?, Array.getD_eq_getD_getElem?, Array.getElem?_setIfInBounds_ne (Ne.symm h)]
section
variable {P : Program} {md : Region.Mode} {ops ops' : Array Oper} {C : World → Prop} {n : Nat}
theorem last_spec {z : Nat} (h : lastB md ops z = true) {listed : Array Bool} (hs : listed.size = ops.size) (hc : closedB md ops listed = true) :
    (listed.getD z true = false → Region.ready md ops listed ≠ []) ∧ (z ∈ Region.ready md ops listed → Region.ready md ops (listed.setIfInBounds z true) = []) := by
  have h1 := List.all_eq_true.1 h listed.toList (mem_lists _ _ (by rw [Array.length_toList]; exact hs))
  simp only [Array.toArray_toList, hc, Bool.not_true, Bool.false_or, Bool.and_eq_true, Bool.or_eq_true, Bool.not_eq_true', List.isEmpty_iff] at h1
  obtain ⟨a, b⟩ := h1
  refine ⟨fun e h0 => ?_, fun hz => ?_⟩
  · rcases a with a | a
    · rw [e] at a; cases a
    · rw [h0] at a; cases a
  · rcases b with b | b
    · rw [List.contains_iff_mem.2 hz] at b; cases b
    · exact b
theorem closed_set {i : Nat} {listed : Array Bool} (hc : closedB md ops listed = true) (hi : i ∈ Region.ready md ops listed) : closedB md ops (listed.setIfInBounds i true) = true := by
  have up : ∀ j, listed.getD j false = true → (listed.setIfInBounds i true).getD j false = true := fun j hj => by
    by_cases e : j = i
    · subst e
      have hlt : j < listed.size := by
        rcases Nat.lt_or_ge j listed.size with h | h
        · exact h
        · simp [Array.getD, Nat.not_lt.2 h] at hj
      simp [Array.getD, hlt]
    · rw [getD_set_other false e]; exact hj
  obtain ⟨_, o, ho, hall⟩ := mem_ready.1 hi
  unfold closedB at hc ⊢
  rw [List.all_eq_true] at hc ⊢
  intro j hj
  have hcj := hc j hj
  by_cases e : j = i
  · subst e
    rw [ho, Bool.or_eq_true]
    right
    dsimp only
    rw [Array.all_eq_true']
    intro ed hed
    cases hb : Region.binds md ed with
    | false => rfl
    | true => rw [up _ (hall ed hed hb)]; rfl
  · rw [show (listed.setIfInBounds i true).getD j false = listed.getD j false from getD_set_other false e]
    cases hl : listed.getD j false with
    | false => rfl
    | true =>
      rw [hl] at hcj
      rw [Bool.not_true, Bool.false_or] at hcj ⊢
      cases hoj : ops[j]? with
      | none => rfl
      | some oj =>
        rw [hoj] at hcj
        dsimp only at hcj ⊢
        rw [Array.all_eq_true'] at hcj ⊢
        intro ed hed
        have := hcj ed hed
        cases hb : Region.binds md ed with
        | false => rfl
        | true =>
          rw [hb, Bool.not_true, Bool.false_or] at this
          rw [up _ this]; rfl
theorem wideIn_of_quiet {o : Oper} {a : Act} {K : Act → Prop} {K' : Act → World → Prop} {Q' : Exit → Act → World → Prop} {w : World} (hw : C w) (h : ∀ a w', C w' → K a → K' a w') (hh : o.quiet P a C K) : o.wpIn Fence.wide n P a w K' Q' := by
  obtain ⟨v, h1, h2⟩ := hh
  have h3 := h1 w hw
  unfold Oper.quietAt at h3
  unfold Oper.wpIn
  refine ⟨fun _ _ => trivial, ?_⟩
  rw [show Fence.wide.round = none from rfl, Oper.semAt_none]
  generalize (execOp a.eval o).run P w = r at *
  cases r with
  | ok x w' =>
    cases x <;> simp only [Oper.quietUpon] at h3 <;> simp only [Oper.uponIn]
    case value u =>
      obtain ⟨e1, e2⟩ := h3
      rw [e1, e2]
      exact h _ _ hw h2
    case skip =>
      obtain ⟨e1, e2⟩ := h3
      rw [e1, ← e2]
      exact h _ _ hw h2
    case enter f args =>
      obtain ⟨e1, hc⟩ := h3
      rw [e1]
      exact ⟨fun h => by simp [Fence.wide] at h, callsIn_wide.2 (hc.mono fun e w'' ⟨he, hw''⟩ => by subst he; exact h _ _ hw'' h2)⟩
  | halt x w' => simp only [Oper.quietUpon] at h3
theorem anyIn_of_last {z : Nat} {o' : Oper} {Qz : Act → Prop} {Q : Exit → Act → World → Prop} (hL : lastB md ops z = true) (hsame : ∀ i, i ≠ z → ops'[i]? = ops[i]?) (hrd : ∀ listed, Region.ready md ops' listed = Region.ready md ops listed)
    (hg : ∀ (i : Nat) (o : Oper), ops[i]? = some o → o.guard = none) (ho' : ops'[z]? = some o') (hg' : o'.guard = none) (hd' : o'.dst = none)
    (hlast : ∀ a w, C w → Qz a → wpOpIn Fence.wide n P ops Q z (fun a' w' => Q .normal a' w') a w) :
    ∀ (fuel : Nat) (listed : Array Bool) (a : Act) (w : World), C w → listed.size = ops.size → closedB md ops listed = true → listed.getD z true = false → wpAnyQ P md ops' C Qz fuel listed a → wpAnyIn Fence.wide n P md ops Q fuel listed a w := by
  intro fuel
  induction fuel with
  | zero =>
    intro listed a w hC hs hc hz h
    exact absurd (by rw [← hrd]; exact h.1) ((last_spec hL hs hc).1 hz)
  | succ fuel ih =>
    intro listed a w hC hs hc hz h
    refine ⟨fun h0 => absurd h0 ((last_spec hL hs hc).1 hz), fun i hi => ?_⟩
    have hq := h.2 i (by rw [hrd]; exact hi)
    by_cases e : i = z
    · subst e
      have hr0 := (last_spec hL hs hc).2 hi
      unfold qOp at hq
      rw [ho'] at hq
      simp only [Region.wanted, hg', if_true] at hq
      obtain ⟨v, _, hn⟩ := hq
      rw [hd'] at hn
      have hQz : Qz a := by
        cases fuel with
        | zero => exact hn.2
        | succ f => exact hn.1 (by rw [hrd]; exact hr0)
      refine wpOpIn_mono (fun a' w' hQ => ?_) (hlast a w hC hQz)
      cases fuel with
      | zero => exact ⟨hr0, hQ⟩
      | succ f => exact ⟨fun _ => hQ, by rw [hr0]; simp⟩
    · unfold qOp at hq
      rw [hsame i e] at hq
      unfold wpOpIn
      have hs' : (listed.setIfInBounds i true).size = ops.size := by rw [Array.size_setIfInBounds]; exact hs
      have hc' := closed_set hc hi
      have hz' : (listed.setIfInBounds i true).getD z true = false := by
        rw [show (listed.setIfInBounds i true).getD z true = listed.getD z true from getD_set_other true (Ne.symm e)]; exact hz
      cases ho : ops[i]? with
      | none => rw [ho] at hq; exact ih _ _ _ hC hs' hc' hz' hq
      | some o =>
        rw [ho] at hq
        simp only [Region.wanted, hg i o ho, if_true] at hq ⊢
        exact wideIn_of_quiet hC (fun a' w' hC' hK => ih _ _ _ hC' hs' hc' hz' hK) hq
end
def mute (o : Oper) : Oper := { o with op := .move (.const undef), dst := none }
theorem wpIn_region_last {P : Program} {id n : Nat} {Q : Exit → Act → World → Prop} {a : Act} {w : World} {l : List Oper} {B : Nat} {W0 : World} (z : Nat) (o : Oper) (hz : l[z]? = some o) (hm : P.follows .mixedOrders = true)
    (hB : Region.lexB .any (l.modify z mute).toArray = true) (hL : lastB .any l.toArray z = true) (hg : l.all (fun o => o.guard.isNone) = true) (h0 : closedB .any l.toArray (Array.replicate l.length false) = true) (hw : Below B W0 w)
    (h : wpQuiet P (l.modify z mute).toArray (fun w' => ∃ X : Since B W0, w' = X.val) (fun a' => ∀ w', (∃ X : Since B W0, w' = X.val) → wpOpIn Fence.wide n P l.toArray Q z (fun a'' w'' => Q .normal a'' w'') a' w') (l.modify z mute) a) :
    (Code.region id l.toArray true).wpIn Fence.wide n P Q a w := by
  have hgs : ∀ (i : Nat) (o : Oper), l.toArray[i]? = some o → o.guard = none := fun i o ho => by
    have := List.all_eq_true.1 hg o (List.mem_of_getElem? (by simpa using ho))
    simpa using this
  have hzl : z < l.length := (List.getElem?_eq_some_iff.1 hz).1
  have hrd : ∀ listed, Region.ready .any (l.modify z mute).toArray listed = Region.ready .any l.toArray listed := fun listed => by
    unfold Region.ready
    simp only [List.size_toArray, List.length_modify]
    congr 1
    funext j
    simp only [List.getElem?_toArray, List.getElem?_modify]
    by_cases e : z = j
    · subst e; rw [hz]; simp [mute]
    · simp [e]
  simp only [Region.lexB, Bool.and_eq_true] at hB
  refine wpIn_region_any hm ?_
  refine anyIn_of_last (z := z) (o' := mute o) (Qz := fun a' => ∀ w', (∃ X : Since B W0, w' = X.val) → wpOpIn Fence.wide n P l.toArray Q z (fun a'' w'' => Q .normal a'' w'') a' w') (C := fun w' => ∃ X : Since B W0, w' = X.val) (ops' := (l.modify z mute).toArray) hL (fun i hi => ?_) hrd hgs (by simp [hz]) ?_ rfl
    (fun a' w' hC hq => hq w' hC) _ _ _ _ ⟨⟨_, hw.drew⟩, rfl⟩ (by simp) (by simpa using h0) (by simp [Array.getD, hzl]) ?_
  · simp [Ne.symm hi]
  · exact hgs z o (by simpa using hz)
  · have := wpAnyQ_lex (P := P) (C := fun w' => ∃ X : Since B W0, w' = X.val) (md := .any) hB.1 (l.modify z mute) 0 (Array.replicate (l.modify z mute).toArray.size false) a (by simp) (by simpa using hB.2) h
    simpa using this
end Go.Proofs.YthpcbbkpjggjbaaGreatDoor
namespace Go.Proofs.YthpcbbkpjggjbaaGreatDoor
open Go.RowKit
def afters (md : Region.Mode) (ops : Array Oper) (j : Nat) : List Nat :=
  match ops[j]? with
  | none => []
  | some o => (o.after.toList.filter fun e => Region.binds md e).map (·.on)
def clos (md : Region.Mode) (ops : Array Oper) : Nat → List Nat → List Nat
  | 0, S => S
  | k + 1, S => clos md ops k (S ++ S.flatMap (afters md ops))
def tailB (md : Region.Mode) (ops : Array Oper) (m k : Nat) : Bool :=
  (List.range m).all (fun i => (clos md ops k (afters md ops m)).contains i) && ((List.range ops.size).all (fun j => decide (j ≤ m) || (clos md ops k (afters md ops j)).contains m) &&
    (List.range ops.size).all (fun j => (afters md ops j).all fun i => decide (i < j)))
section
variable {P : Program} {md : Region.Mode} {ops ops' : Array Oper} {C : World → Prop}
theorem afters_listed {listed : Array Bool} (hc : closedB md ops listed = true) {j : Nat} (hj : listed.getD j false = true) : ∀ i ∈ afters md ops j, listed.getD i false = true := by
  intro i hi
  unfold afters at hi
  cases ho : ops[j]? with
  | none => rw [ho] at hi; simp at hi
  | some o =>
    rw [ho] at hi
    obtain ⟨e, he, rfl⟩ := List.mem_map.1 hi
    obtain ⟨he1, he2⟩ := List.mem_filter.1 he
    have hlt : j < ops.size := (Array.getElem?_eq_some_iff.1 ho).1
    have := List.all_eq_true.1 hc j (List.mem_range.2 hlt)
    rw [hj, ho, Bool.not_true, Bool.false_or] at this
    have h2 := (Array.all_eq_true'.1 this) e (Array.mem_toList_iff.1 he1)
    rw [he2, Bool.not_true, Bool.false_or] at h2
    exact h2
theorem clos_listed {listed : Array Bool} (hc : closedB md ops listed = true) : ∀ (k : Nat) (S : List Nat), (∀ i ∈ S, listed.getD i false = true) → ∀ i ∈ clos md ops k S, listed.getD i false = true
  | 0, _, h => h
  | k + 1, S, h => clos_listed hc k _ fun i hi => by
    rcases List.mem_append.1 hi with a | a
    · exact h i a
    · obtain ⟨j, hj, hi'⟩ := List.mem_flatMap.1 a
      exact afters_listed hc (h j hj) i hi'
theorem ready_afters {listed : Array Bool} {j : Nat} (h : j ∈ Region.ready md ops listed) : ∀ i ∈ afters md ops j, listed.getD i false = true := by
  obtain ⟨_, o, ho, hall⟩ := mem_ready.1 h
  intro i hi
  unfold afters at hi
  rw [ho] at hi
  obtain ⟨e, he, rfl⟩ := List.mem_map.1 hi
  obtain ⟨he1, he2⟩ := List.mem_filter.1 he
  exact hall e (Array.mem_toList_iff.1 he1) he2
theorem ready_some {listed : Array Bool} (hs : listed.size = ops.size) (hb : ∀ j, j < ops.size → ∀ i ∈ afters md ops j, i < j) : ∀ (n j : Nat), j ≤ n → j < ops.size → listed.getD j true = false → Region.ready md ops listed ≠ [] := by
  intro n
  induction n with
  | zero =>
    intro j hn hj hf h0
    obtain rfl : j = 0 := by omega
    have : 0 ∈ Region.ready md ops listed := by
      refine mem_ready.2 ⟨hf, ops[0], Array.getElem?_eq_getElem hj, fun e he hbd => ?_⟩
      have := hb 0 hj e.on (by unfold afters; rw [Array.getElem?_eq_getElem hj]; exact List.mem_map_of_mem (List.mem_filter.2 ⟨Array.mem_toList_iff.2 he, hbd⟩))
      omega
    rw [h0] at this
    simp at this
  | succ n ih =>
    intro j hn hj hf h0
    by_cases hall : ∀ i ∈ afters md ops j, listed.getD i false = true
    · have : j ∈ Region.ready md ops listed := by
        refine mem_ready.2 ⟨hf, ops[j], Array.getElem?_eq_getElem hj, fun e he hbd => ?_⟩
        exact hall e.on (by unfold afters; rw [Array.getElem?_eq_getElem hj]; exact List.mem_map_of_mem (List.mem_filter.2 ⟨Array.mem_toList_iff.2 he, hbd⟩))
      rw [h0] at this
      simp at this
    · simp only [Classical.not_forall] at hall
      obtain ⟨i, hi, hl⟩ := hall
      have hij := hb j hj i hi
      refine ih i (by omega) (by omega) ?_ h0
      have hlt : i < listed.size := by omega
      simp [Array.getD, hlt] at hl ⊢
      exact hl
def upTo (m n : Nat) : Array Bool := (List.replicate m true ++ List.replicate (n - m) false).toArray
theorem upTo_of {listed : Array Bool} {m n : Nat} (hs : listed.size = n) (hm : m ≤ n) (h1 : ∀ i, i < m → listed.getD i false = true) (h2 : ∀ i, m ≤ i → i < n → listed.getD i true = false) : listed = upTo m n := by
  refine Array.ext (by simp [upTo, hs]; omega) fun i hi hi' => ?_
  by_cases c : i < m
  · have := h1 i c
    simp [Array.getD, hi] at this
    rw [this]
    simp [upTo, c]
  · have := h2 i (by omega) (by omega)
    simp [Array.getD, hi] at this
    rw [this]
    simp [upTo, List.getElem_append, c]
theorem count_set {listed : Array Bool} {i fuel : Nat} (hi : i < listed.size) (hf : listed.getD i true = false) (hc : listed.toList.count false = fuel + 1) : (listed.setIfInBounds i true).toList.count false = fuel := by
  have hv : listed[i] = false := by simpa [Array.getD, hi] using hf
  rw [Array.toList_setIfInBounds, List.count_set (by simpa using hi)]
  simp [hv, hc]
end
end Go.Proofs.YthpcbbkpjggjbaaGreatDoor
namespace Go.Proofs.YthpcbbkpjggjbaaGreatDoor
open Go.RowKit
def deps (ops : Array Oper) (k : Nat) : List Nat :=
  match ops[k]? with
  | none => []
  | some o => (List.range k).filter fun j => match (ops[j]?).bind (·.dst) with | some d => (o.looksAt ops).contains d | none => false
abbrev Law := Value → World → Prop
def upd (env : Nat → Law) (k : Nat) (V : Law) : Nat → Law := fun j => if j = k then V else env j
def StepR (P : Program) (G : World → World → Prop) (V : Law) (ops : Array Oper) (o : Oper) (a : Act) (w : World) : Prop :=
  if Region.wanted o (yielded ops a.tmps) then ∀ K : Act → World → Prop, (∀ u w', V u w' → G w w' → K (a.put o.dst u) w') → o.wp P a w K (fun _ _ _ => False) else V undef w
def walkR (P : Program) (G : World → World → Prop) (W0 : World) (ops : Array Oper) (End : (Nat → Law) → ((Nat → Value) → Act) → Prop) : List Oper → Nat → (Nat → Law) → ((Nat → Value) → Act) → Prop
  | [], _, env, A => End env A
  | o :: l, k, env, A =>
    (∃ c, (∀ v w, G W0 w → (∀ j, (deps ops k).contains j = true → env j (v j) w) → StepR P G (fun u _ => u = c) ops o (A v) w) ∧ walkR P G W0 ops End l (k + 1) (upd env k fun u _ => u = c) (fun v => (A v).put o.dst c)) ∨
    (∃ V : Law, (∀ u w w', V u w → G w w' → V u w') ∧ (∀ v w, G W0 w → (∀ j, (deps ops k).contains j = true → env j (v j) w) → StepR P G V ops o (A v) w) ∧ walkR P G W0 ops End l (k + 1) (upd env k V) (fun v => (A v).put o.dst (v k)))
def lay (ops : Array Oper) (a0 : Act) (v : Nat → Value) (f : Nat → Bool) : Nat → Act
  | 0 => a0
  | k + 1 => if f k then (lay ops a0 v f k).put ((ops[k]?).bind (·.dst)) (v k) else lay ops a0 v f k
def relB (md : Region.Mode) (ops : Array Oper) (m : Nat) : Bool :=
  ((List.range m).all fun i => (List.range m).all fun j => decide (i = j) || (match (ops[i]?).bind (·.dst) with | some d => decide ((ops[j]?).bind (·.dst) ≠ some d) | none => true)) &&
  ((List.range m).all fun i => match ops[i]? with
    | none => true
    | some o => (List.range m).all fun j => match (ops[j]?).bind (·.dst) with
      | none => true
      | some d => !(o.looksAt ops).contains d || decide (i = j) || (decide (j < i) && (afters md ops i).contains j) || (decide (i < j) && (afters md ops j).contains i)) &&
  (List.range ops.size).all (fun j => (afters md ops j).all fun i => decide (i < j))
section
variable {P : Program} {md : Region.Mode} {ops : Array Oper} {G : World → World → Prop} {W0 : World} {End : (Nat → Law) → ((Nat → Value) → Act) → Prop}
theorem walkR_spec : ∀ (l : List Oper) (k : Nat) (env : Nat → Law) (A : (Nat → Value) → Act), (∀ j, j < l.length → l[j]? = ops[k + j]?) → walkR P G W0 ops End l k env A →
    ∃ (V : Nat → Law) (x : Nat → (Nat → Value) → Value) (B : Nat → (Nat → Value) → Act), (∀ j, j < k → V j = env j) ∧ (∀ j, k ≤ j → j < k + l.length → ∀ u w w', V j u w → G w w' → V j u w') ∧ B k = A ∧
      (∀ i o, k ≤ i → i < k + l.length → ops[i]? = some o → (∀ v, B (i + 1) v = (B i v).put o.dst (x i v)) ∧ (∀ v w, V i (v i) w → x i v = v i) ∧
        (∀ v w, G W0 w → (∀ j, (deps ops i).contains j = true → V j (v j) w) → StepR P G (V i) ops o (B i v) w)) ∧ End V (B (k + l.length))
  | [], k, env, A, _, h => ⟨env, fun _ _ => undef, fun _ => A, fun _ _ => rfl, fun j h1 h2 => by simp at h2; omega, rfl, fun i o h1 h2 => by simp at h2; omega, h⟩
  | o :: l, k, env, A, hl, h => by
    have h0 : ops[k]? = some o := by simpa using (hl 0 (by simp)).symm
    have hl' : ∀ j, j < l.length → l[j]? = ops[k + 1 + j]? := fun j hj => by
      have := hl (j + 1) (by simpa using hj)
      rw [show k + 1 + j = k + (j + 1) from by omega, ← this]
      rfl
    have hdep : ∀ i j, (deps ops i).contains j = true → j < i := fun i j hj => by
      unfold deps at hj
      cases ho : ops[i]? with
      | none => rw [ho] at hj; simp at hj
      | some o' =>
        rw [ho] at hj
        have := List.mem_filter.1 (List.contains_iff_mem.1 hj)
        exact List.mem_range.1 this.1
    have go : ∀ (U : Law) (y : (Nat → Value) → Value), (∀ u w w', U u w → G w w' → U u w') → (∀ v w, U (v k) w → y v = v k) →
        (∀ v w, G W0 w → (∀ j, (deps ops k).contains j = true → env j (v j) w) → StepR P G U ops o (A v) w) → walkR P G W0 ops End l (k + 1) (upd env k U) (fun v => (A v).put o.dst (y v)) →
        ∃ (V : Nat → Law) (x : Nat → (Nat → Value) → Value) (B : Nat → (Nat → Value) → Act), (∀ j, j < k → V j = env j) ∧ (∀ j, k ≤ j → j < k + (o :: l).length → ∀ u w w', V j u w → G w w' → V j u w') ∧ B k = A ∧
          (∀ i o, k ≤ i → i < k + (o :: l).length → ops[i]? = some o → (∀ v, B (i + 1) v = (B i v).put o.dst (x i v)) ∧ (∀ v w, V i (v i) w → x i v = v i) ∧
            (∀ v w, G W0 w → (∀ j, (deps ops i).contains j = true → V j (v j) w) → StepR P G (V i) ops o (B i v) w)) ∧ End V (B (k + (o :: l).length)) := by
      intro U y hU hy hstep hw
      obtain ⟨V, x, B, h1, h2, h3, h4, h5⟩ := walkR_spec l (k + 1) _ _ hl' hw
      have hVk : V k = U := by rw [h1 k (by omega)]; simp [upd]
      have hVj : ∀ j, j < k → V j = env j := fun j hj => by rw [h1 j (by omega)]; simp [upd, show j ≠ k from by omega]
      refine ⟨V, fun i => if i = k then y else x i, fun i => if i = k then A else B i, hVj, fun j a b => ?_, by simp, fun i o' a b ho' => ?_, ?_⟩
      · by_cases e : j = k
        · subst e; rw [hVk]; exact hU
        · exact h2 j (by omega) (by rw [List.length_cons] at b; omega)
      · by_cases e : i = k
        · subst e
          obtain rfl : o = o' := by rw [h0] at ho'; exact Option.some.inj ho'
          refine ⟨fun v => ?_, fun v w hv => ?_, fun v w hw' hd => ?_⟩
          · dsimp only
            rw [if_neg (by omega), if_pos rfl, if_pos rfl, h3]
          · dsimp only
            rw [hVk] at hv; rw [if_pos rfl]; exact hy v w hv
          · dsimp only
            rw [hVk, if_pos rfl]
            refine hstep v w hw' fun j hj => ?_
            have := hd j hj
            rwa [hVj j (hdep i j hj)] at this
        · obtain ⟨q1, q2, q3⟩ := h4 i o' (by omega) (by rw [List.length_cons] at b; omega) ho'
          refine ⟨fun v => ?_, fun v w hv => ?_, fun v w hw' hd => ?_⟩
          · dsimp only
            rw [if_neg (by omega), if_neg e, if_neg e]; exact q1 v
          · dsimp only
            rw [if_neg e]; exact q2 v w hv
          · dsimp only
            rw [if_neg e]; exact q3 v w hw' hd
      · dsimp only
        rw [if_neg (by rw [List.length_cons]; omega), List.length_cons, show k + (l.length + 1) = k + 1 + l.length from by omega]
        exact h5
    rcases h with ⟨c, hs, hw⟩ | ⟨U, hU, hs, hw⟩
    · exact go (fun u _ => u = c) (fun _ => c) (fun _ _ _ e _ => e) (fun _ _ e => e.symm) hs hw
    · exact go U (fun v => v k) hU (fun _ _ _ => rfl) hs hw
theorem put_size (a : Act) (d : Option Tmp) (u : Value) : (a.put d u).tmps.size = a.tmps.size := by cases d <;> simp [Act.put]
theorem lay_size (a0 : Act) (v : Nat → Value) (f : Nat → Bool) : ∀ k, (lay ops a0 v f k).tmps.size = a0.tmps.size
  | 0 => rfl
  | k + 1 => by
    rw [lay]
    split
    · rw [put_size, lay_size a0 v f k]
    · exact lay_size a0 v f k
theorem lay_agree (a0 : Act) {v y : Nat → Value} {f g : Nat → Bool} (t : Nat) : ∀ k, (∀ j, j < k → (ops[j]?).bind (·.dst) = some t → f j = g j ∧ (f j = true → v j = y j)) →
    (lay ops a0 v f k).tmps[t]? = (lay ops a0 y g k).tmps[t]?
  | 0, _ => rfl
  | k + 1, h => by
    have ih := lay_agree a0 t k fun j hj => h j (by omega)
    by_cases e : (ops[k]?).bind (·.dst) = some t
    · obtain ⟨h1, h2⟩ := h k (by omega) e
      rw [lay, lay, ← h1, e]
      cases hf : f k with
      | false => simpa using ih
      | true =>
        have sz : (lay ops a0 v f k).tmps.size = (lay ops a0 y g k).tmps.size := by rw [lay_size, lay_size]
        rw [h2 hf]
        simp only [if_true, Act.put, Array.getElem?_setIfInBounds, sz]
    · have skip : ∀ (b : Act) (u : Value), (b.put ((ops[k]?).bind (·.dst)) u).tmps[t]? = b.tmps[t]? := fun b u => by
        cases hd : (ops[k]?).bind (·.dst) with
        | none => rfl
        | some d =>
          have : d ≠ t := fun q => e (by rw [hd, q])
          simp [Act.put, Array.getElem?_setIfInBounds_ne this]
      rw [lay, lay]
      split <;> split <;> (try rw [skip]) <;> (try rw [skip]) <;> exact ih
theorem lay_same (a0 : Act) {v y : Nat → Value} {f g : Nat → Bool} : ∀ k, (∀ j, j < k → f j = g j ∧ (f j = true → v j = y j)) → lay ops a0 v f k = lay ops a0 y g k
  | 0, _ => rfl
  | k + 1, h => by
    obtain ⟨h1, h2⟩ := h k (by omega)
    rw [lay, lay, lay_same a0 k fun j hj => h j (by omega), ← h1]
    cases hf : f k with
    | false => rfl
    | true => rw [h2 hf]
theorem lay_set (a0 : Act) {v : Nat → Value} {f : Nat → Bool} {i : Nat} {u : Value} (hf : f i = false) {m : Nat} (hd : ∀ j, j < m → j ≠ i → ∀ d, (ops[i]?).bind (·.dst) = some d → (ops[j]?).bind (·.dst) ≠ some d) : ∀ k, k ≤ m → i < k →
    lay ops a0 (fun j => if j = i then u else v j) (fun j => if j = i then true else f j) k = (lay ops a0 v f k).put ((ops[i]?).bind (·.dst)) u
  | 0, _, h => by omega
  | k + 1, hk, h => by
    by_cases e : k = i
    · subst e
      rw [lay, lay, if_pos (by simp), if_pos rfl, hf, if_neg (by simp)]
      congr 1
      exact lay_same a0 _ fun j hj => by
        have : j ≠ k := by omega
        simp [this]
    · have ih := lay_set a0 (v := v) (u := u) hf hd k (by omega) (by omega)
      rw [lay, lay, ih]
      simp only [if_neg e]
      cases hfk : f k with
      | false => simp
      | true =>
        simp only [if_true]
        exact Act.put_comm _ u (v k) fun d hd' => hd k (by omega) e d hd'
theorem execOp_agree {o : Oper} (hs : ∀ cs b, o.op ≠ .select cs b) {a b : Act} (h : ∀ t, t ∈ o.looksAt ops → a.tmps[t]? = b.tmps[t]?) : execOp a.eval o = execOp b.eval o :=
  execOp_congr o hs fun x hx => by
    cases x with
    | tmp t =>
      have := h t (List.mem_append_left _ (List.mem_filterMap.2 ⟨.tmp t, by simpa using hx, rfl⟩))
      simp [Act.eval, this]
    | _ => rfl
theorem wanted_agree {o : Oper} {a b : Act} (h : ∀ t, t ∈ o.looksAt ops → a.tmps[t]? = b.tmps[t]?) : Region.wanted o (yielded ops a.tmps) = Region.wanted o (yielded ops b.tmps) := by
  unfold Region.wanted
  cases hg : o.guard with
  | none => rfl
  | some gw =>
    obtain ⟨g, want⟩ := gw
    have hy : yielded ops a.tmps g = yielded ops b.tmps g := by
      unfold yielded
      cases ht : (ops[g]?).bind (·.dst) with
      | none => rfl
      | some t =>
        have := h t (by simp [Oper.looksAt, hg, ht])
        simp [this]
    simp only [hy]
theorem put_same {a b : Act} (hs : a.tmps.size = b.tmps.size) {d : Option Tmp} {u u' : Value} (h : b.put d u = b.put d u') : a.put d u = a.put d u' := by
  cases d with
  | none => rfl
  | some d =>
    simp only [Act.put, Act.mk.injEq, and_true] at h ⊢
    by_cases hd : d < b.tmps.size
    · have := congrArg (·[d]?) h
      simp [hd] at this
      rw [this]
    · have h1 : a.tmps.size ≤ d := by rw [hs]; exact Nat.le_of_not_lt hd
      rw [Array.setIfInBounds_eq_of_size_le h1, Array.setIfInBounds_eq_of_size_le h1]
theorem step_at {o : Oper} (hs : ∀ cs b, o.op ≠ .select cs b) {a b : Act} {w : World} {V : Law} (hsz : a.tmps.size = b.tmps.size) (h : ∀ t, t ∈ o.looksAt ops → a.tmps[t]? = b.tmps[t]?) (hb : StepR P G V ops o b w) : StepR P G V ops o a w := by
  unfold StepR at *
  rw [wanted_agree h]
  split
  · rename_i hw
    rw [if_pos hw] at hb
    intro K hK
    have h1 := hb (fun a' w' => ∃ u, a' = b.put o.dst u ∧ V u w' ∧ G w w') fun u w' hv hg => ⟨u, rfl, hv, hg⟩
    unfold Oper.wp at *
    rw [execOp_agree hs h]
    have fin : ∀ u w', (∃ u', b.put o.dst u = b.put o.dst u' ∧ V u' w' ∧ G w w') → K (a.put o.dst u) w' := fun u w' ⟨u', e, hv, hg⟩ => by
      rw [put_same hsz e]; exact hK u' w' hv hg
    generalize (execOp b.eval o).run P w = r at *
    cases r with
    | ok n w' =>
      cases n <;> simp only [Oper.upon] at h1 ⊢
      case value u => exact fin u w' h1
      case skip => exact fin undef w' h1
      case defer d =>
        obtain ⟨u', e, _⟩ := h1
        exfalso
        have e2 := congrArg (fun (q : Act) => q.defers.length) e
        cases hd : o.dst <;> simp [hd, Act.put] at e2
      case enter f args =>
        refine Calls.mono h1 fun e w'' he => ?_
        cases e with
        | returned u => exact fin u w'' he
        | panicked c => exact he.elim
        | outgrown => exact absurd he (by simp [LetsOut])
      case row row args => exact Rows.mono h1 fun u w'' he => fin u w'' he
    | halt x w' => cases x <;> simp only [Oper.upon] at h1
  · rename_i hw
    rwa [if_neg hw] at hb
theorem relB_spec {m : Nat} (h : relB md ops m = true) :
    (∀ i, i < m → ∀ j, j < m → i ≠ j → ∀ d, (ops[i]?).bind (·.dst) = some d → (ops[j]?).bind (·.dst) ≠ some d) ∧
    (∀ i, i < m → ∀ o, ops[i]? = some o → ∀ j, j < m → ∀ d, (ops[j]?).bind (·.dst) = some d → d ∈ o.looksAt ops → i = j ∨ (j < i ∧ j ∈ afters md ops i) ∨ (i < j ∧ i ∈ afters md ops j)) ∧
    (∀ j, j < ops.size → ∀ i ∈ afters md ops j, i < j) := by
  simp only [relB, Bool.and_eq_true, List.all_eq_true, List.mem_range, Bool.or_eq_true, decide_eq_true_eq] at h
  obtain ⟨⟨h1, h2⟩, h3⟩ := h
  refine ⟨fun i hi j hj hne d hd => ?_, fun i hi o ho j hj d hd hl => ?_, h3⟩
  · have := h1 i hi j hj
    rw [hd] at this
    rcases this with e | e
    · exact absurd e hne
    · simpa using e
  · have := h2 i hi
    rw [ho] at this
    simp only [List.all_eq_true, List.mem_range] at this
    have := this j hj
    rw [hd] at this
    simp only [Bool.or_eq_true, Bool.and_eq_true, decide_eq_true_eq, Bool.not_eq_true', List.contains_iff_mem] at this
    rcases this with ((e | e) | e) | e
    · rw [List.contains_iff_mem.2 hl] at e; cases e
    · exact .inl e
    · exact .inr (.inl e)
    · exact .inr (.inr e)
theorem any_of_rel {m : Nat} {a0 : Act} {Q : Exit → Act → World → Prop} {V : Nat → Law} {x : Nat → (Nat → Value) → Value} {B : Nat → (Nat → Value) → Act} (hGr : ∀ w, G w w) (hG : ∀ w w' w'', G w w' → G w' w'' → G w w'')
    (hR : relB md ops m = true) (hm : m ≤ ops.size) (hsel : Region.noSelect ops = true)
    (hT : ∀ listed : Array Bool, listed.size = ops.size → closedB md ops listed = true → (∃ j, j < m ∧ listed.getD j false = false) → ∀ i ∈ Region.ready md ops listed, i < m)
    (hmono : ∀ j, j < m → ∀ u w w', V j u w → G w w' → V j u w') (hB0 : ∀ v, B 0 v = a0)
    (hB : ∀ i o, i < m → ops[i]? = some o → (∀ v, B (i + 1) v = (B i v).put o.dst (x i v)) ∧ (∀ v w, V i (v i) w → x i v = v i) ∧ (∀ v w, G W0 w → (∀ j, (deps ops i).contains j = true → V j (v j) w) → StepR P G (V i) ops o (B i v) w))
    (hE : ∀ v w, G W0 w → (∀ j, j < m → V j (v j) w) → wpAny P md ops Q (ops.size - m) (upTo m ops.size) (B m v) w) :
    ∀ (fuel : Nat) (listed : Array Bool) (v : Nat → Value) (w : World), G W0 w → listed.size = ops.size → closedB md ops listed = true → (∀ i, m ≤ i → i < ops.size → listed.getD i true = false) → listed.toList.count false = fuel →
      (∀ j, j < m → listed.getD j false = true → V j (v j) w) → wpAny P md ops Q fuel listed (lay ops a0 v (fun j => listed.getD j false) m) w := by
  obtain ⟨hR1, hR2, hR3⟩ := relB_spec hR
  have hget : ∀ i, i < m → ∃ o, ops[i]? = some o := fun i hi => ⟨_, Array.getElem?_eq_getElem (by omega)⟩
  have hBlay : ∀ v i, i ≤ m → B i v = lay ops a0 (fun j => x j v) (fun j => decide (j < i)) m := fun v i hi => by
    have h1 : ∀ k, k ≤ i → B k v = lay ops a0 (fun j => x j v) (fun j => decide (j < i)) k := fun k => by
      induction k with
      | zero => intro _; exact hB0 v
      | succ k ih =>
        intro hk
        obtain ⟨o, ho⟩ := hget k (by omega)
        rw [(hB k o (by omega) ho).1 v, ih (by omega), lay, if_pos (by simp; omega), ho]
        rfl
    have h2 : ∀ k, lay ops a0 (fun j => x j v) (fun j => decide (j < i)) (i + k) = lay ops a0 (fun j => x j v) (fun j => decide (j < i)) i := fun k => by
      induction k with
      | zero => rfl
      | succ k ih => rw [← Nat.add_assoc, lay, if_neg (by simp), ih]
    rw [h1 i (Nat.le_refl _), ← h2 (m - i), show i + (m - i) = m from by omega]
  intro fuel
  induction fuel with
  | zero =>
    intro listed v w hw hs hc hz hn hV
    have hall : ∀ i, i < ops.size → listed.getD i false = true := fun i hi => by
      have hlt : i < listed.size := by omega
      have : listed[i] ≠ false := fun e => (List.count_eq_zero.1 hn) (e ▸ (by simp))
      simpa [Array.getD, hlt] using this
    have hmn : m = ops.size := by
      rcases Nat.lt_or_ge m ops.size with c | c
      · have h1 := hz m (Nat.le_refl _) c
        have h2 := hall m c
        have hlt : m < listed.size := by omega
        simp [Array.getD, hlt] at h1 h2
        rw [h1] at h2; cases h2
      · omega
    have he : listed = upTo m ops.size := upTo_of hs hm (fun i hi => hall i (by omega)) hz
    have ha : lay ops a0 v (fun j => listed.getD j false) m = B m v := by
      rw [hBlay v m (Nat.le_refl _)]
      refine lay_same a0 m fun j hj => ⟨by rw [hall j (by omega)]; simp [hj], fun _ => ?_⟩
      obtain ⟨o, ho⟩ := hget j hj
      exact ((hB j o hj ho).2.1 v w (hV j hj (hall j (by omega)))).symm
    have := hE v w hw fun j hj => hV j hj (hall j (by omega))
    rw [show ops.size - m = 0 from by omega, ← he, ← ha] at this
    exact this
  | succ fuel ih =>
    intro listed v w hw hs hc hz hn hV
    by_cases hall : ∀ i, i < m → listed.getD i false = true
    · have he := upTo_of hs hm hall hz
      have hf : fuel + 1 = ops.size - m := by
        rw [← hn, he, upTo]
        simp [List.count_replicate]
      have ha : lay ops a0 v (fun j => listed.getD j false) m = B m v := by
        rw [hBlay v m (Nat.le_refl _)]
        refine lay_same a0 m fun j hj => ⟨by rw [hall j hj]; simp [hj], fun _ => ?_⟩
        obtain ⟨o, ho⟩ := hget j hj
        exact ((hB j o hj ho).2.1 v w (hV j hj (hall j hj))).symm
      have := hE v w hw fun j hj => hV j hj (hall j hj)
      rw [ha, he, hf]
      exact this
    · simp only [Classical.not_forall] at hall
      obtain ⟨j0, hj0, hl0⟩ := hall
      have hl0' : listed.getD j0 false = false := by simpa using hl0
      have hlj : listed.getD j0 true = false := by
        have hlt : j0 < listed.size := by omega
        simp [Array.getD, hlt] at hl0' ⊢
        exact hl0'
      refine ⟨fun h0 => absurd h0 (ready_some hs hR3 j0 j0 (Nat.le_refl _) (by omega) hlj), fun i hi => ?_⟩
      have him : i < m := hT listed hs hc ⟨j0, hj0, hl0'⟩ i hi
      obtain ⟨hfi, o, ho, _⟩ := mem_ready.1 hi
      obtain ⟨_, _, hst⟩ := hB i o him ho
      have hfi' : listed.getD i false = false := by
        have hlt : i < listed.size := by omega
        simp [Array.getD, hlt] at hfi ⊢
        exact hfi
      have haft := ready_afters hi
      -- what it looks at
      have hdeps : ∀ j, (deps ops i).contains j = true → j < m ∧ listed.getD j false = true := fun j hj => by
        unfold deps at hj
        rw [ho] at hj
        have := List.mem_filter.1 (List.contains_iff_mem.1 hj)
        have hji := List.mem_range.1 this.1
        have h2 := this.2
        cases hd : (ops[j]?).bind (·.dst) with
        | none => rw [hd] at h2; simp at h2
        | some d =>
          rw [hd] at h2
          simp only [List.contains_iff_mem] at h2
          rcases hR2 i him o ho j (by omega) d hd h2 with e | e | e
          · omega
          · exact ⟨by omega, haft j e.2⟩
          · omega
      have hagree : ∀ t, t ∈ o.looksAt ops → (lay ops a0 v (fun j => listed.getD j false) m).tmps[t]? = (B i v).tmps[t]? := fun t ht => by
        rw [hBlay v i (by omega)]
        refine lay_agree a0 t m fun j hj hd => ?_
        rcases hR2 i him o ho j hj t hd ht with e | e | e
        · subst e
          exact ⟨by rw [hfi']; simp, fun q => by rw [hfi'] at q; cases q⟩
        · have hq := haft j e.2
          refine ⟨by rw [hq]; simp [e.1], fun _ => ?_⟩
          obtain ⟨oj, hoj⟩ := hget j hj
          exact ((hB j oj hj hoj).2.1 v w (hV j hj hq)).symm
        · have hnj : listed.getD j false = false := by
            cases hq : listed.getD j false with
            | false => rfl
            | true =>
              have := afters_listed hc hq i e.2
              rw [hfi'] at this; cases this
          exact ⟨by rw [hnj]; simp; omega, fun q => by rw [hnj] at q; cases q⟩
      have hstep := step_at (fun cs b => Region.noSelect_spec hsel i o cs b ho) (by rw [lay_size, hBlay v i (by omega), lay_size]) hagree (hst v w hw fun j hj => hV j (hdeps j hj).1 (hdeps j hj).2)
      have hnext : ∀ u w', V i u w' → G w w' → wpAny P md ops Q fuel (listed.setIfInBounds i true) ((lay ops a0 v (fun j => listed.getD j false) m).put o.dst u) w' := fun u w' hu hg => by
        have hset := lay_set a0 (v := v) (f := fun j => listed.getD j false) (u := u) hfi' (fun j hj hne d hd => hR1 i him j hj (Ne.symm hne) d hd) m (Nat.le_refl _) him
        rw [ho] at hset
        rw [show o.dst = (some o).bind (·.dst) from rfl, ← hset]
        have hfun : (fun j => if j = i then true else listed.getD j false) = fun j => (listed.setIfInBounds i true).getD j false := funext fun j => by
          by_cases e : j = i
          · subst e
            have hlt : j < listed.size := by omega
            simp [Array.getD, hlt]
          · rw [if_neg e, getD_set_other false e]
        rw [hfun]
        refine ih (listed.setIfInBounds i true) _ w' (hG _ _ _ hw hg) (by rw [Array.size_setIfInBounds]; exact hs) (closed_set hc hi) (fun p hp hp2 => ?_) (count_set (by omega) hfi hn) fun j hj hl => ?_
        · rw [getD_set_other true (by omega)]; exact hz p hp hp2
        · by_cases e : j = i
          · subst e; rw [if_pos rfl]; exact hu
          · rw [if_neg e]
            rw [getD_set_other false e] at hl
            exact hmono j hj _ _ _ (hV j hj hl) hg
      unfold wpOp
      rw [ho]
      dsimp only
      unfold StepR at hstep
      split
      · rename_i hwt
        rw [if_pos hwt] at hstep
        have h1 := hstep _ hnext
        refine .inl ?_
        unfold Oper.wp at *
        generalize (execOp (lay ops a0 v (fun j => listed.getD j false) m).eval o).run P w = r at *
        cases r with
        | ok n w' =>
          cases n <;> simp only [Oper.upon] at h1 ⊢ <;> first | exact h1 | (refine Calls.mono h1 fun e w'' he => ?_; cases e <;> first | exact he | exact he.elim | exact absurd he (by simp [LetsOut]))
        | halt y w' => cases y <;> simp only [Oper.upon] at h1
      · rename_i hwt
        rw [if_neg hwt] at hstep
        exact hnext undef w hstep (hGr w)
theorem step_run {V : Law} {o : Oper} {a : Act} {w : World} (hwt : Region.wanted o (yielded ops a.tmps) = true) (u : Value) (w' : World) (h : (execOp a.eval o).run P w = .ok (.value u) w') (hv : V u w') (hg : G w w') : StepR P G V ops o a w := by
  unfold StepR
  rw [if_pos hwt]
  intro K hK
  unfold Oper.wp
  rw [h]
  exact hK u w' hv hg
theorem step_call {V : Law} {o : Oper} {a : Act} {w : World} (hwt : Region.wanted o (yielded ops a.tmps) = true) (f : FuncId) (args : Array Value) (h : (execOp a.eval o).run P w = .ok (.enter f args) w)
    (hc : Calls P f args w fun e w'' => ∃ u, e = .returned u ∧ V u w'' ∧ G w w'') : StepR P G V ops o a w := by
  unfold StepR
  rw [if_pos hwt]
  intro K hK
  unfold Oper.wp
  rw [h]
  refine Calls.mono hc fun e w'' ⟨u, he, hv, hg⟩ => ?_
  subst he
  exact hK u w'' hv hg
theorem step_skip {V : Law} {o : Oper} {a : Act} {w : World} (hwt : Region.wanted o (yielded ops a.tmps) = false) (hv : V undef w) : StepR P G V ops o a w := by
  unfold StepR
  rw [if_neg (by rw [hwt]; simp)]
  exact hv
theorem closed_none (md : Region.Mode) (ops : Array Oper) (n : Nat) : closedB md ops (Array.replicate n false) = true := by
  unfold closedB
  rw [List.all_eq_true]
  intro j _
  have : (Array.replicate n false).getD j false = false := by
    by_cases h : j < n
    · simp [Array.getD, h]
    · simp [Array.getD, h]
  rw [this]
  rfl
theorem wp_region_rel_tail {id : Nat} {Q : Exit → Act → World → Prop} {a : Act} {w : World} {l : List Oper} (m k : Nat) (hGr : ∀ w, G w w) (hG : ∀ w w' w'', G w w' → G w' w'' → G w w'') (hm : P.follows .mixedOrders = true)
    (hml : m ≤ l.length) (hsel : Region.noSelect l.toArray = true) (hR : relB .any l.toArray m = true) (hT : m = l.length ∨ tailB .any l.toArray m k = true) (hw : G W0 w.drew)
    (h : walkR P G W0 l.toArray (fun env A => ∀ v w, G W0 w → (∀ j, j < m → env j (v j) w) → wpAny P .any l.toArray Q (l.length - m) (upTo m l.length) (A v) w) (l.take m) 0 (fun _ _ _ => True) (fun _ => a)) :
    (Code.region id l.toArray true).wp P Q a w := by
  have hlen : (l.take m).length = m := by rw [List.length_take]; omega
  obtain ⟨V, x, B, _, h2, h3, h4, h5⟩ := walkR_spec (P := P) (ops := l.toArray) (l.take m) 0 _ _ (fun j hj => by
    rw [hlen] at hj
    rw [List.getElem?_take, if_pos hj, Nat.zero_add]
    simp) h
  rw [hlen, Nat.zero_add] at h5
  simp only [hlen, Nat.zero_add, Nat.zero_le, true_implies] at h2 h4
  refine wp_region_any hm ?_
  have hlay : ∀ k, lay l.toArray a (fun _ => undef) (fun j => (Array.replicate l.toArray.size false).getD j false) k = a := fun k => by
    induction k with
    | zero => rfl
    | succ k ih =>
      rw [lay, if_neg, ih]
      by_cases h : k < l.length
      · simp [h]
      · simp [h]
  have hTT : ∀ listed : Array Bool, listed.size = l.toArray.size → closedB .any l.toArray listed = true → (∃ j, j < m ∧ listed.getD j false = false) → ∀ i ∈ Region.ready .any l.toArray listed, i < m := by
    intro listed hs hc ⟨j, hj, hlj⟩ i hi
    obtain ⟨hfi, o, ho, _⟩ := mem_ready.1 hi
    have hsz : i < l.toArray.size := (Array.getElem?_eq_some_iff.1 ho).1
    rcases hT with e | hT
    · rw [e]; simpa using hsz
    · simp only [tailB, Bool.and_eq_true, List.all_eq_true, List.mem_range, Bool.or_eq_true, decide_eq_true_eq, List.contains_iff_mem] at hT
      obtain ⟨hT1, hT2, _⟩ := hT
      rcases Nat.lt_or_ge i m with c | c
      · exact c
      · exfalso
        have hall : ∀ q, listed.getD q false = true → ∀ y ∈ afters .any l.toArray q, listed.getD y false = true := fun q hq => afters_listed hc hq
        have hmj : m ∈ clos .any l.toArray k (afters .any l.toArray i) → listed.getD m false = true := clos_listed hc k _ (ready_afters hi) m
        have fin : listed.getD m false = true → False := fun hq => by
          have := clos_listed hc k _ (hall m hq) j (hT1 j hj)
          rw [hlj] at this; cases this
        rcases Nat.lt_or_ge m i with d | d
        · rcases hT2 i hsz with e | e
          · omega
          · exact fin (hmj e)
        · obtain rfl : i = m := by omega
          have := clos_listed hc k _ (ready_afters hi) j (hT1 j hj)
          rw [hlj] at this; cases this
  have := any_of_rel (P := P) (md := .any) (ops := l.toArray) (G := G) (W0 := W0) (m := m) (a0 := a) (Q := Q) (V := V) (x := x) (B := B) hGr hG hR (by simpa using hml) hsel hTT h2 (fun v => by rw [h3]) h4 (by simpa using h5)
    l.toArray.size (Array.replicate l.toArray.size false) (fun _ => undef) w.drew hw (by simp) (closed_none _ _ _) (fun i _ hi => by have hi' : i < l.length := by simpa using hi
                                                                                                                                     simp [Array.getD, hi']) (by simp) (fun j _ hl => by
      exfalso
      by_cases hj : j < l.length
      · simp [hj] at hl
      · simp [hj] at hl)
  rw [hlay] at this
  exact this
def Gw (w w' : World) : Prop := Below w.heap.size w w'
theorem Gw.refl (w : World) : Gw w w := Below.refl _ w
theorem Gw.trans (w w' w'' : World) (h : Gw w w') (k : Gw w' w'') : Gw w w'' := Below.trans h (Below.mono k h.size)
theorem wp_region_rel {id : Nat} {Q : Exit → Act → World → Prop} {a : Act} {w : World} {l : List Oper} (hGr : ∀ w, G w w) (hG : ∀ w w' w'', G w w' → G w' w'' → G w w'') (hm : P.follows .mixedOrders = true)
    (hsel : Region.noSelect l.toArray = true) (hR : relB .any l.toArray l.length = true) (hw : G W0 w.drew)
    (h : walkR P G W0 l.toArray (fun env A => ∀ v w, G W0 w → (∀ j, j < l.length → env j (v j) w) → Q .normal (A v) w) l 0 (fun _ _ _ => True) (fun _ => a)) :
    (Code.region id l.toArray true).wp P Q a w := by
  refine wp_region_rel_tail (G := G) (W0 := W0) l.length 0 hGr hG hm (Nat.le_refl _) hsel hR (.inl rfl) hw ?_
  rw [List.take_length, Nat.sub_self]
  have key : ∀ (l' : List Oper) (k : Nat) (env : Nat → Law) (A : (Nat → Value) → Act), walkR P G W0 l.toArray (fun env A => ∀ v w, G W0 w → (∀ j, j < l.length → env j (v j) w) → Q .normal (A v) w) l' k env A →
      walkR P G W0 l.toArray (fun env A => ∀ v w, G W0 w → (∀ j, j < l.length → env j (v j) w) → wpAny P .any l.toArray Q 0 (upTo l.length l.length) (A v) w) l' k env A := by
    intro l'
    induction l' with
    | nil =>
      intro k env A h v w hw hv
      refine ⟨?_, h v w hw hv⟩
      cases hr : Region.ready .any l.toArray (upTo l.length l.length) with
      | nil => rfl
      | cons i r =>
        exfalso
        have hi : i ∈ Region.ready .any l.toArray (upTo l.length l.length) := by rw [hr]; exact List.mem_cons_self
        have := (mem_ready.1 hi).1
        by_cases hlt : i < l.length
        · simp [upTo, Array.getD, hlt] at this
        · simp [upTo, Array.getD, hlt] at this
    | cons o l' ih =>
      intro k env A h
      rcases h with ⟨c, h1, h2⟩ | ⟨V, h1, h2, h3⟩
      · exact .inl ⟨c, h1, ih _ _ _ h2⟩
      · exact .inr ⟨V, h1, h2, ih _ _ _ h3⟩
  exact key _ _ _ _ h
end
end Go.Proofs.YthpcbbkpjggjbaaGreatDoor
namespace Go.Proofs.YthpcbbkpjggjbaaGreatDoor
open Go.RowKit
set_option maxRecDepth 4000
theorem modify_same {h : Array Obj} {M : Nat} {o : Obj} {f : Obj → Obj} (ho : h[M]? = some o) (hf : f o = o) : h.modify M f = h := by
  apply Array.ext
  · simp
  · intro i h1 h2
    rw [Array.getElem_modify]
    split
    · rename_i e
      subst e
      have : h[M] = o := (Array.getElem?_eq_some_iff.1 ho).2
      rw [this, hf]
    · rfl
theorem set_same {W : World} {b o : Nat} {v : Value} (h : W.cell? ⟨b, o, none⟩ = some v) : W.setCell ⟨b, o, none⟩ v = W := by
  unfold World.setCell
  cases hb : W.heap[b]? with
  | none => simp [World.cell?, hb] at h
  | some ob =>
    cases ob with
    | cells c e fz =>
      rw [modify_same hb]
      have hc : c[o]? = some v := by simpa [World.cell?, hb] using h
      obtain ⟨hlt, rfl⟩ := Array.getElem?_eq_some_iff.1 hc
      have hs : c.setIfInBounds o c[o] = c := by
        apply Array.ext
        · simp
        · intro i h1 h2
          rw [Array.getElem_setIfInBounds]
          split
          · rename_i e; subst e; rfl
          · rfl
      simp [hs]
    | _ => simp [World.cell?, hb] at h
theorem step_still {P : Program} {G : World → World → Prop} {V : Law} {ops : Array Oper} {o : Oper} {a : Act} {w : World} (hwt : Region.wanted o (yielded ops a.tmps) = true) (w' : World) (h : (execOp a.eval o).run P w = .ok .skip w') (hv : V undef w') (hg : G w w') : StepR P G V ops o a w := by
  unfold StepR
  rw [if_pos hwt]
  intro K hK
  unfold Oper.wp
  rw [h]
  exact hK undef w' hv hg
set_option maxHeartbeats 2000000 in
theorem ownItem_any (x : Im) (w : World) (hx : x.Ok) :
    Calls Tryz.prog 42 #[imV x] w fun e w' => e = .returned (imV x) ∧ Below w.heap.size w w' := by
  obtain ⟨xp, xk, xm, xt, xb⟩ := x
  have hp : xp.size ≤ 140737488355328 := by have := hx.path; have : xp.size ≤ 140737488351232 := this; omega
  have hb : xb.size ≤ 140737488355328 := by have := hx.bytes; have : xb.size ≤ 140737488351232 := this; omega
  have hc1 := fun W => clone_any xp W hp
  have hc2 := fun W => clone_any xb W hb
  obtain ⟨W1, hW1⟩ : ∃ W1, W1 = w.alloc (.cells #[.string xp, .int .i64 xk, .int .i64 xm, .int .i64 xt, .string xb] 27) := ⟨_, rfl⟩
  have HB1 : Hid (Below w.heap.size w W1) := by rw [hW1]; exact (Below.refl _ w).alloc (Nat.le_refl _) _
  have HM1 : Hid (W1.heap[w.heap.size]? = some (.cells #[.string xp, .int .i64 xk, .int .i64 xm, .int .i64 xt, .string xb] 27 (0, 0))) := by rw [hW1]; exact heap_alloc_new w _
  clear hx hp hb
  have HC : Hid (∀ W, Gw (W1.alloc (.cells #[.string ⟨#[]⟩, .int .i64 0, .int .i64 0, .int .i64 0, .string ⟨#[]⟩] 27)) W → W.cell? ⟨w.heap.size, 0, none⟩ = some (.string xp) ∧ W.cell? ⟨w.heap.size, 4, none⟩ = some (.string xb) ∧ W.frozen? ⟨w.heap.size, 0, none⟩ = false ∧ W.frozen? ⟨w.heap.size, 4, none⟩ = false) := fun W hW => by
    have hlt := (Array.getElem?_eq_some_iff.1 HM1.out).1
    have h := (hW.block w.heap.size (by simp; omega)).trans (((Below.refl _ W1).alloc (Nat.le_refl _) _).block _ hlt |>.trans HM1.out)
    refine ⟨?_, ?_, ?_, ?_⟩ <;> simp [World.cell?, World.frozen?, h]
  go_enter Tryz.func42, Tryz.ntmps42
  go_upto_region 1 with fail
  rw [← hW1]
  have hsz : W1.heap.size = w.heap.size + 1 := by rw [hW1]; simp
  have HR : Hid ((W1.alloc (.cells #[.string ⟨#[]⟩, .int .i64 0, .int .i64 0, .int .i64 0, .string ⟨#[]⟩] 27)).heap[w.heap.size + 1]? = some (.cells #[.string ⟨#[]⟩, .int .i64 0, .int .i64 0, .int .i64 0, .string ⟨#[]⟩] 27 (0, 0))) := by
    have := heap_alloc_new W1 (.cells #[.string ⟨#[]⟩, .int .i64 0, .int .i64 0, .int .i64 0, .string ⟨#[]⟩] 27)
    rwa [hsz] at this
  have HB2 : Hid (Below w.heap.size w (W1.alloc (.cells #[.string ⟨#[]⟩, .int .i64 0, .int .i64 0, .int .i64 0, .string ⟨#[]⟩] 27))) := HB1.out.alloc HB1.out.size _
  have HL : Hid (w.heap.size + 1 < (W1.alloc (.cells #[.string ⟨#[]⟩, .int .i64 0, .int .i64 0, .int .i64 0, .string ⟨#[]⟩] 27)).heap.size) := by show _ < _; simp; omega
  have HM2 : Hid ((W1.alloc (.cells #[.string ⟨#[]⟩, .int .i64 0, .int .i64 0, .int .i64 0, .string ⟨#[]⟩] 27)).heap[w.heap.size]? = some (.cells #[.string xp, .int .i64 xk, .int .i64 xm, .int .i64 xt, .string xb] 27 (0, 0))) := (((Below.refl _ W1).alloc (Nat.le_refl _) _).block _ (Array.getElem?_eq_some_iff.1 HM1.out).1).trans HM1.out
  generalize W1.alloc (.cells #[.string ⟨#[]⟩, .int .i64 0, .int .i64 0, .int .i64 0, .string ⟨#[]⟩] 27) = W2 at *
  clear hW1 hsz HM1 HB1
  refine wp_region_rel (G := Gw) (W0 := W2) Gw.refl Gw.trans (by kernel_rfl) (by kernel_rfl) (by kernel_rfl) (Below.refl _ W2).drew ?_
  refine .inl ⟨.pointer (some ⟨w.heap.size, 0, none⟩), fun v W hW hd => step_run (by first | rfl | simp [Region.wanted, yielded]) _ W (by clear hd; go_simp) rfl (Gw.refl _), ?_⟩
  simp only [Act.put, List.setIfInBounds_toArray, List.set_cons_zero, List.set_cons_succ]
  refine .inl ⟨.string xp, fun v W hW hd => step_run (by first | rfl | simp [Region.wanted, yielded]) _ W (by clear hd; have ce := (HC.out W hW).1; go_simp) rfl (Gw.refl _), ?_⟩
  simp only [Act.put, List.setIfInBounds_toArray, List.set_cons_zero, List.set_cons_succ]
  refine .inl ⟨.string xp, fun v W hW hd => step_call (by first | rfl | simp [Region.wanted, yielded]) 41 #[.string xp] (by clear hd; go_simp) ((hc1 W).mono fun e w' h => ⟨_, h.1, rfl, h.2⟩), ?_⟩
  simp only [Act.put, List.setIfInBounds_toArray, List.set_cons_zero, List.set_cons_succ]
  refine .inl ⟨.pointer (some ⟨w.heap.size, 4, none⟩), fun v W hW hd => step_run (by first | rfl | simp [Region.wanted, yielded]) _ W (by clear hd; go_simp) rfl (Gw.refl _), ?_⟩
  simp only [Act.put, List.setIfInBounds_toArray, List.set_cons_zero, List.set_cons_succ]
  refine .inl ⟨.string xb, fun v W hW hd => step_run (by first | rfl | simp [Region.wanted, yielded]) _ W (by clear hd; have ce := (HC.out W hW).2.1; go_simp) rfl (Gw.refl _), ?_⟩
  simp only [Act.put, List.setIfInBounds_toArray, List.set_cons_zero, List.set_cons_succ]
  refine .inl ⟨.string xb, fun v W hW hd => step_call (by first | rfl | simp [Region.wanted, yielded]) 41 #[.string xb] (by clear hd; go_simp) ((hc2 W).mono fun e w' h => ⟨_, h.1, rfl, h.2⟩), ?_⟩
  simp only [Act.put, List.setIfInBounds_toArray, List.set_cons_zero, List.set_cons_succ]
  refine .inl ⟨.pointer (some ⟨w.heap.size, 0, none⟩), fun v W hW hd => step_run (by first | rfl | simp [Region.wanted, yielded]) _ W (by clear hd; go_simp) rfl (Gw.refl _), ?_⟩
  simp only [Act.put, List.setIfInBounds_toArray, List.set_cons_zero, List.set_cons_succ]
  refine .inl ⟨undef, fun v W hW hd => step_still rfl W (by clear hd; have ce := (HC.out W hW).1; have cf := (HC.out W hW).2.2.1; have cs := set_same ce; go_simp) rfl (Gw.refl _), ?_⟩
  simp only [Act.put]
  refine .inl ⟨.pointer (some ⟨w.heap.size, 4, none⟩), fun v W hW hd => step_run (by first | rfl | simp [Region.wanted, yielded]) _ W (by clear hd; go_simp) rfl (Gw.refl _), ?_⟩
  simp only [Act.put, List.setIfInBounds_toArray, List.set_cons_zero, List.set_cons_succ]
  refine .inl ⟨undef, fun v W hW hd => step_still rfl W (by clear hd; have ce := (HC.out W hW).2.1; have cf := (HC.out W hW).2.2.2; have cs := set_same ce; go_simp) rfl (Gw.refl _), ?_⟩
  simp only [Act.put]
  intro v w3 hW3 hV
  have hB3 : Below W2.heap.size W2 w3 := hW3
  clear hV hW3 hc1 hc2 HC
  obtain ⟨m0, m1, m2, m3, m4, mlt⟩ := five_at ((hB3.block _ (by have := HL.out; omega)).trans HM2.out)
  have hr := (hB3.block _ HL.out).trans HR.out
  obtain ⟨r0, r1, r2, r3, r4, rlt⟩ := five_at hr
  have hfz : ∀ j, w3.frozen? ⟨w.heap.size + 1, j, none⟩ = false := fun j => frozen_of_row w3 _ j _ _ hr
  have f0 := hfz 0
  have f1 := hfz 1
  have f2 := hfz 2
  have f3 := hfz 3
  have f4 := hfz 4
  have HB3 : Hid (Below w.heap.size w w3) := HB2.out.trans (hB3.mono HB2.out.size)
  clear hB3 HR hr hfz HB2 HM2
  go_wp2_with fail
  refine bodyPost_ret (v := .agg #[.string xp, .int .i64 xk, .int .i64 xm, .int .i64 xt, .string xb]) ?_ rfl ⟨rfl, ((((HB3.out.setCell (p := ⟨w.heap.size + 1, 0, none⟩) (by simp) _).setCell (p := ⟨w.heap.size + 1, 1, none⟩) (by simp) _).setCell (p := ⟨w.heap.size + 1, 2, none⟩) (by simp) _).setCell (p := ⟨w.heap.size + 1, 3, none⟩) (by simp) _).setCell (p := ⟨w.heap.size + 1, 4, none⟩) (by simp) _⟩
  simp [results, asAddr, go_sem, r0, r1, r2, r3, r4]
end Go.Proofs.YthpcbbkpjggjbaaGreatDoor
namespace Go.Proofs.YthpcbbkpjggjbaaGreatDoor
open Go.RowKit
set_option maxRecDepth 4000
def cmpB (s t : ByteArray) : Int := if Op.bytesLess s.data.toList t.data.toList then -1 else if Op.bytesLess t.data.toList s.data.toList then 1 else 0
def cmpL : List ByteArray → List ByteArray → Int
  | [], [] => 0
  | [], _ :: _ => -1
  | _ :: _, [] => 1
  | s :: l, t :: m => if cmpB s t ≠ 0 then cmpB s t else cmpL l m
theorem cmpL_ahead : ∀ (l m : List ByteArray), decide (cmpL l m < 0) = Nn.ahead (dl l) (dl m)
  | [], [] => rfl
  | [], _ :: _ => rfl
  | _ :: _, [] => rfl
  | s :: l, t :: m => by
    have ih := cmpL_ahead l m
    show _ = Nn.ahead (s.data.toList :: dl l) (t.data.toList :: dl m)
    rw [Nn.ahead, cmpL]
    unfold cmpB
    by_cases e : s.data.toList = t.data.toList
    · rw [if_pos e, e, Nn.bl_irr]
      simpa using ih
    · rw [if_neg e]
      have ht := Nn.bl_tri _ _ e
      cases h1 : Op.bytesLess s.data.toList t.data.toList
      · rw [h1] at ht
        have h2 : Op.bytesLess t.data.toList s.data.toList = true := by
          cases h : Op.bytesLess t.data.toList s.data.toList
          · rw [h] at ht; cases ht
          · rfl
        simp [h2]
      · simp
theorem isNaN_any (s : ByteArray) (w : World) :
    Calls Tryz.prog 109 #[.string s] w fun e w' => e = .returned (.bool false) ∧ w' = w := by
  go_enter Tryz.func109, Tryz.ntmps109
  go_wp2_with fail
  go_ret
  exact ⟨rfl, rfl⟩
theorem cmpS_any (s t : ByteArray) (w : World) :
    Calls Tryz.prog 88 #[.string s, .string t] w fun e w' => e = .returned (.int .i64 (cmpB s t)) ∧ w' = w := by
  have hx := fun u => isNaN_any s u
  have hy := fun u => isNaN_any t u
  by_cases he : s.data.toList = t.data.toList
  · have HE : Hid (cmpB s t = 0) := by
      show _ = _
      unfold cmpB; rw [he, Nn.bl_irr]; rfl
    have hl : Op.bytesLess s.toList t.toList = false := by rw [Lib.toList_data, Lib.toList_data, he, Nn.bl_irr]
    have hq : (s.toList == t.toList) = true := by rw [Lib.toList_data, Lib.toList_data, he, beq_self_eq_true]
    clear he
    go_enter Tryz.func88, Tryz.ntmps88
    go_wp2_with fail
    refine (hx _).mono ?_
    rintro e u ⟨rfl, hu⟩
    obtain rfl := hu.symm
    go_wp2_with fail
    refine (hy _).mono ?_
    rintro e u ⟨rfl, hu⟩
    obtain rfl := hu.symm
    go_wp2_with fail
    go_ret
    exact ⟨by rw [HE.out]; rfl, rfl⟩
  have ht := Nn.bl_tri _ _ he
  have hq : (s.toList == t.toList) = false := by rw [Lib.toList_data, Lib.toList_data, beq_eq_false_iff_ne]; exact he
  cases h1 : Op.bytesLess s.data.toList t.data.toList
  · have HE : Hid (cmpB s t = 1) := by
      show _ = _
      unfold cmpB
      rw [h1] at ht ⊢
      cases h : Op.bytesLess t.data.toList s.data.toList
      · rw [h] at ht; cases ht
      · rfl
    have hl : Op.bytesLess s.toList t.toList = false := by rw [Lib.toList_data, Lib.toList_data]; exact h1
    clear he ht h1
    go_enter Tryz.func88, Tryz.ntmps88
    go_wp2_with fail
    refine (hx _).mono ?_
    rintro e u ⟨rfl, hu⟩
    obtain rfl := hu.symm
    go_wp2_with fail
    refine (hy _).mono ?_
    rintro e u ⟨rfl, hu⟩
    obtain rfl := hu.symm
    go_wp2_with fail
    go_ret
    exact ⟨by rw [HE.out]; rfl, rfl⟩
  · have HE : Hid (cmpB s t = -1) := by
      show _ = _
      unfold cmpB
      rw [h1]
      rfl
    have hl : Op.bytesLess s.toList t.toList = true := by rw [Lib.toList_data, Lib.toList_data]; exact h1
    clear he ht h1
    go_enter Tryz.func88, Tryz.ntmps88
    go_wp2_with fail
    refine (hx _).mono ?_
    rintro e u ⟨rfl, hu⟩
    obtain rfl := hu.symm
    go_wp2_with fail
    refine (hy _).mono ?_
    rintro e u ⟨rfl, hu⟩
    obtain rfl := hu.symm
    go_wp2_with fail
    go_ret
    exact ⟨by rw [HE.out]; rfl, rfl⟩
theorem cmpL_drop (l m : List ByteArray) (k : Nat) (hk : k < l.length) (hm : k < m.length) : cmpL (l.drop k) (m.drop k) = if cmpB (l.getD k ByteArray.empty) (m.getD k ByteArray.empty) ≠ 0 then cmpB (l.getD k ByteArray.empty) (m.getD k ByteArray.empty) else cmpL (l.drop (k + 1)) (m.drop (k + 1)) := by
  rw [List.drop_eq_getElem_cons hk, List.drop_eq_getElem_cons hm, cmpL, List.getD_eq_getElem?_getD, List.getElem?_eq_getElem hk, List.getD_eq_getElem?_getD, List.getElem?_eq_getElem hm]
  rfl
set_option maxHeartbeats 1000000 in
theorem cmpL_any (v1 v2 : Value) (l m : List ByteArray) (w : World) (h1 : Tx w v1 l) (h2 : Tx w v2 m) (hl : l.length ≤ 140737488351232) (hm : m.length ≤ 140737488351232) :
    Calls Tryz.prog 70 #[v1, v2] w fun e w' => e = .returned (.int .i64 (cmpL l m)) ∧ w' = w := by
  obtain ⟨a1, c1, rfl⟩ := h1.slice
  obtain ⟨a2, c2, rfl⟩ := h2.slice
  have HS : Hid (cmpL (l.drop 0) (m.drop 0) = cmpL l m) := rfl
  have H1 : Hid (Tx w (.slice a1 l.length c1) l) := h1
  have H2 : Hid (Tx w (.slice a2 m.length c2) m) := h2
  obtain ⟨N, hN⟩ : ∃ N, N = l.length := ⟨_, rfl⟩
  obtain ⟨M, hM⟩ : ∃ M, M = m.length := ⟨_, rfl⟩
  have HN : Hid (N = l.length) := hN
  have HM : Hid (M = m.length) := hM
  rw [← hN] at H1 hl ⊢
  rw [← hM] at H2 hm ⊢
  clear h1 h2 hN hM
  generalize cmpL l m = Z at *
  go_enter Tryz.func70, Tryz.ntmps70
  go_wp2_with fail
  go_loop [11] (fun i => ∃ k : Nat, k ≤ N ∧ k ≤ M ∧ i = .int .i64 k ∧ Hid (cmpL (l.drop k) (m.drop k) = Z)) (fun i => N - (intOf i).toNat)
  case atStart => exact ⟨0, by omega, by omega, rfl, HS⟩
  case round =>
    clear HS
    obtain ⟨k, hk, hkm, rfl, HS⟩ := hrel
    by_cases hlt : k < N
    · obtain ⟨bk, o, rfl, hbk, c0⟩ := H1.out.get k (by rw [← HN.out]; omega)
      by_cases hlm : k < M
      · obtain ⟨bk', o', rfl, hbk', d0⟩ := H2.out.get k (by rw [← HM.out]; omega)
        have HD : Hid (Z = if cmpB (l.getD k ByteArray.empty) (m.getD k ByteArray.empty) ≠ 0 then cmpB (l.getD k ByteArray.empty) (m.getD k ByteArray.empty) else cmpL (l.drop (k + 1)) (m.drop (k + 1))) := by
          show _ = _
          rw [← cmpL_drop _ _ _ (by rw [← HN.out]; omega) (by rw [← HM.out]; omega)]; exact HS.out.symm
        generalize l.getD k ByteArray.empty = s at *
        generalize m.getD k ByteArray.empty = t at *
        have hq := cmpS_any s t w
        generalize cmpB s t = E at *
        clear HS
        by_cases h0 : E = 0
        · have HZ : Hid (cmpL (l.drop (k + 1)) (m.drop (k + 1)) = Z) := by have := HD.out; rw [if_neg (by simpa using h0)] at this; exact this.symm
          subst h0
          clear HD
          go_wp2_with fail
          refine hq.mono ?_
          rintro e u ⟨rfl, hu⟩
          obtain rfl := hu.symm
          go_wp2_with fail
          go_round
          case rel => exact ⟨k + 1, by omega, by omega, by go_num, HZ⟩
          case measure => simp only [intOf]; omega
        · have HZ : Hid (Z = E) := by have := HD.out; rwa [if_pos h0] at this
          have hqn : (E != 0) = true := by rw [bne_iff_ne]; exact h0
          clear HD h0
          go_wp2_with fail
          refine hq.mono ?_
          rintro e u ⟨rfl, hu⟩
          obtain rfl := hu.symm
          go_wp2_with fail
          go_ret
          exact ⟨by rw [HZ.out]; rfl, rfl⟩
      · obtain rfl : k = M := by omega
        have HZ : Hid (Z = 1) := by
          have := HS.out
          rw [(List.drop_eq_nil_of_le (by rw [← HM.out]; omega) : m.drop k = []), List.drop_eq_getElem_cons (by rw [← HN.out]; omega), cmpL] at this
          exact this.symm
        clear HS
        go_wp2_with fail
        go_ret
        exact ⟨by rw [HZ.out]; rfl, rfl⟩
    · obtain rfl : k = N := by omega
      by_cases hlm : k < M
      · have HZ : Hid (Z = -1) := by
          have := HS.out
          rw [(List.drop_eq_nil_of_le (by rw [← HN.out]; omega) : l.drop k = []), List.drop_eq_getElem_cons (by rw [← HM.out]; omega), cmpL] at this
          exact this.symm
        clear HS
        go_wp2_with fail
        go_ret
        exact ⟨by rw [HZ.out]; rfl, rfl⟩
      · have HZ : Hid (Z = 0) := by
          have := HS.out
          rw [(List.drop_eq_nil_of_le (by rw [← HN.out]; omega) : l.drop k = []), (List.drop_eq_nil_of_le (by rw [← HM.out]; omega) : m.drop k = []), cmpL] at this
          exact this.symm
        clear HS
        go_wp2_with fail
        go_ret
        exact ⟨by rw [HZ.out]; rfl, rfl⟩
theorem Nn.errsF_len' : ∀ (l : List Nn.Name) (i : Nat), Nn.errsF i l = 0 → i ≤ 8 → i + l.length ≤ 8
  | [], i, _, h => by simpa using h
  | s :: l, i, h, hi => by
    rw [Nn.errsF] at h
    split at h
    · simp at h
    split at h
    · rename_i q; exact absurd h q
    · have := Nn.errsF_len' l (i + 1) h (by omega)
      simp only [List.length_cons]
      omega
theorem Nn.errs_len' {l : List Nn.Name} (h : Nn.errs l = 0) : l.length ≤ 8 := by have := Nn.errsF_len' l 0 h (by omega); omega
theorem split_len {p : List UInt8} (h : (Nn.split p).2 = 0) : (Nn.split p).1.length ≤ 8 := by
  have hj := Nn.split_join (p := p) (m := (Nn.split p).1) (Prod.ext rfl h)
  exact Nn.errs_len' (Nn.join_ok hj).1
set_option maxHeartbeats 1000000 in
theorem less_any (a b : ByteArray) (w : World) (ha : a.size ≤ 140737488351232) (hb : b.size ≤ 140737488351232) (hT : Tabs w) :
    Calls Tryz.prog 54 #[.string a, .string b] w fun e w' => e = .returned (.tuple #[.bool (Nn.less a.data.toList b.data.toList).1, .int .i64 (Nn.less a.data.toList b.data.toList).2]) ∧ Below w.heap.size w w' := by
  have h1 := split_any a w (by omega) hT
  have HT : Hid (Tabs w) := hT
  by_cases e1 : (Nn.split a.data.toList).2 = 0
  · by_cases e2 : (Nn.split b.data.toList).2 = 0
    · have HL : Hid (Nn.less a.data.toList b.data.toList = (Nn.ahead (Nn.split a.data.toList).1 (Nn.split b.data.toList).1, 0)) := by
        show _ = _
        unfold Nn.less
        rw [if_neg (by simpa using e1), if_neg (by simpa using e2)]
      have k1 := split_len e1
      have k2 := split_len e2
      go_enter Tryz.func54, Tryz.ntmps54
      go_wp2_with fail
      refine h1.mono ?_
      rintro e w1 ⟨v1, l1, rfl, hd1, x1, _, b1⟩
      have h2 := split_any b w1 (by omega) (HT.out.below b1)
      rw [← hd1] at HL k1
      rw [e1]
      clear h1 hd1 e1
      go_wp2_with fail
      refine h2.mono ?_
      rintro e w2 ⟨v2, l2, rfl, hd2, x2, _, b2⟩
      rw [← hd2] at HL k2
      rw [e2]
      rw [dl_length] at k1 k2
      have hq := cmpL_any v1 v2 l1 l2 w2 (x1.below b2) x2 (by omega) (by omega)
      have HB : Hid (Below w.heap.size w w2) := b1.trans (b2.mono b1.size)
      have HC : Hid (decide (cmpL l1 l2 < 0) = Nn.ahead (dl l1) (dl l2)) := cmpL_ahead l1 l2
      obtain ⟨a1, c1, rfl⟩ := x1.slice
      obtain ⟨a2, c2, rfl⟩ := x2.slice
      generalize cmpL l1 l2 = Z at *
      clear h2 hd2 e2 x1 x2 b1 b2
      go_wp2_with fail
      refine hq.mono ?_
      rintro e u ⟨rfl, hu⟩
      obtain rfl := hu.symm
      go_wp2_with fail
      go_ret2
      exact ⟨by rw [HL.out, ← HC.out]; rfl, HB.out⟩
    · have HL : Hid (Nn.less a.data.toList b.data.toList = (false, (Nn.split b.data.toList).2)) := by
        show _ = _
        unfold Nn.less
        rw [if_neg (by simpa using e1), if_pos e2]
      go_enter Tryz.func54, Tryz.ntmps54
      go_wp2_with fail
      refine h1.mono ?_
      rintro e w1 ⟨v1, l1, rfl, _, x1, _, b1⟩
      have h2 := split_any b w1 (by omega) (HT.out.below b1)
      have HB : Hid (Below w.heap.size w w1) := b1
      rw [e1]
      obtain ⟨a1, c1, rfl⟩ := x1.slice
      clear h1 e1 x1 b1
      go_wp2_with fail
      refine h2.mono ?_
      rintro e w2 ⟨v2, l2, rfl, _, x2, _, b2⟩
      have HB2 : Hid (Below w.heap.size w w2) := HB.out.trans (b2.mono HB.out.size)
      obtain ⟨a2, c2, rfl⟩ := x2.slice
      generalize (Nn.split b.data.toList).2 = E at *
      have hqn : (E != 0) = true := by rw [bne_iff_ne]; exact e2
      clear h2 e2 x2 b2
      go_wp2_with fail
      go_ret2
      exact ⟨by rw [HL.out]; rfl, HB2.out⟩
  · have HL : Hid (Nn.less a.data.toList b.data.toList = (false, (Nn.split a.data.toList).2)) := by
      show _ = _
      unfold Nn.less
      rw [if_pos e1]
    go_enter Tryz.func54, Tryz.ntmps54
    go_wp2_with fail
    refine h1.mono ?_
    rintro e w1 ⟨v1, l1, rfl, _, x1, _, b1⟩
    have HB : Hid (Below w.heap.size w w1) := b1
    obtain ⟨a1, c1, rfl⟩ := x1.slice
    generalize (Nn.split a.data.toList).2 = E at *
    have hqn : (E != 0) = true := by rw [bne_iff_ne]; exact e1
    clear h1 e1 x1 b1
    go_wp2_with fail
    go_ret2
    exact ⟨by rw [HL.out]; rfl, HB.out⟩
end Go.Proofs.YthpcbbkpjggjbaaGreatDoor
namespace Go.Proofs.YthpcbbkpjggjbaaGreatDoor
open Go.RowKit
set_option maxRecDepth 4000
set_option maxHeartbeats 1000000 in
theorem cmpP_any (a b : ByteArray) (w : World) (ha : a.size ≤ 140737488351232) (hb : b.size ≤ 140737488351232) (hT : Tabs w) :
    Calls Tryz.prog 40 #[.string a, .string b] w fun e w' => e = .returned (.int .i64 (Dl.cmp a.data.toList b.data.toList)) ∧ Below w.heap.size w w' := by
  have hl := less_any a b w ha hb hT
  by_cases he : a.data.toList = b.data.toList
  · have h1 : (a.toList == b.toList) = true := by rw [Lib.toList_data, Lib.toList_data, he]; exact beq_self_eq_true _
    have HE : Hid (Dl.cmp a.data.toList b.data.toList = 0) := by show _ = _; unfold Dl.cmp; rw [if_pos he]
    generalize Dl.cmp a.data.toList b.data.toList = C at *
    clear hl hT he
    go_enter Tryz.func40, Tryz.ntmps40
    go_wp2_with fail
    go_ret
    exact ⟨by rw [HE.out]; rfl, Below.refl _ _⟩
  · have h1 : (a.toList == b.toList) = false := by rw [beq_eq_false_iff_ne, Lib.toList_data, Lib.toList_data]; exact he
    have HE : Hid (Dl.cmp a.data.toList b.data.toList = if (Nn.less a.data.toList b.data.toList).1 = true then -1 else 1) := by show _ = _; unfold Dl.cmp; rw [if_neg he]
    generalize Dl.cmp a.data.toList b.data.toList = C at *
    generalize (Nn.less a.data.toList b.data.toList).1 = L at *
    generalize (Nn.less a.data.toList b.data.toList).2 = E at *
    clear hT he
    go_enter Tryz.func40, Tryz.ntmps40
    go_wp2_with fail
    refine hl.mono ?_
    rintro e w1 ⟨rfl, b1⟩
    have HB : Hid (Below w.heap.size w w1) := b1
    clear hl b1 h1
    cases L with
    | true =>
      go_wp2_with fail
      go_ret
      exact ⟨by rw [HE.out]; rfl, HB.out⟩
    | false =>
      go_wp2_with fail
      go_ret
      exact ⟨by rw [HE.out]; rfl, HB.out⟩
set_option maxHeartbeats 1000000 in
theorem cmpII_any (x y : Im) (w : World) (hx : x.Ok) (hy : y.Ok) (hT : Tabs w) :
    Calls Tryz.prog 24 #[imV x, imV y] w fun e w' => e = .returned (.int .i64 (Dl.cmp x.it.path y.it.path)) ∧ Below w.heap.size w w' := by
  have hc := fun (W : World) (hW : Below w.heap.size w W) => cmpP_any x.path y.path W hx.path hy.path (hT.below hW)
  obtain ⟨xp, xk, xm, xt, xb⟩ := x
  obtain ⟨yp, yk, ym, yt, yb⟩ := y
  have HC : Hid (Dl.cmp (Im.it ⟨xp, xk, xm, xt, xb⟩).path (Im.it ⟨yp, yk, ym, yt, yb⟩).path = Dl.cmp xp.data.toList yp.data.toList) := rfl
  dsimp only at hc
  rw [HC.out]
  clear HC hx hy hT
  generalize Dl.cmp xp.data.toList yp.data.toList = C at *
  have HB2 : Hid (Below w.heap.size w ((w.alloc (.cells #[.string xp, .int .i64 xk, .int .i64 xm, .int .i64 xt, .string xb] 27)).alloc (.cells #[.string yp, .int .i64 yk, .int .i64 ym, .int .i64 yt, .string yb] 27))) := ((Below.refl _ w).alloc (Nat.le_refl _) _).alloc (by simp) _
  have h2 := hc _ HB2.out
  clear hc
  go_enter Tryz.func24, Tryz.ntmps24
  go_wp2_with fail
  refine h2.mono ?_
  rintro e w1 ⟨rfl, b1⟩
  have HB : Hid (Below w.heap.size w w1) := HB2.out.trans (b1.mono HB2.out.size)
  clear h2 b1
  go_wp2_with fail
  go_ret
  exact ⟨rfl, HB.out⟩
set_option maxHeartbeats 1000000 in
theorem cmpIE_any (x : Im) (y : Em) (w : World) (hx : x.Ok) (hy : y.Ok) (hT : Tabs w) :
    Calls Tryz.prog 28 #[imV x, emV y] w fun e w' => e = .returned (.int .i64 (Dl.cmp x.it.path y.ed.path)) ∧ Below w.heap.size w w' := by
  have hc := fun (W : World) (hW : Below w.heap.size w W) => cmpP_any x.path y.path W hx.path hy.path (hT.below hW)
  obtain ⟨xp, xk, xm, xt, xb⟩ := x
  obtain ⟨yp, yg, yi, yk, ym, yt, yb⟩ := y
  have HC : Hid (Dl.cmp (Im.it ⟨xp, xk, xm, xt, xb⟩).path (Em.ed ⟨yp, yg, ⟨yi, yk, ym, yt, yb⟩⟩).path = Dl.cmp xp.data.toList yp.data.toList) := rfl
  dsimp only at hc
  rw [HC.out]
  clear HC hx hy hT
  generalize Dl.cmp xp.data.toList yp.data.toList = C at *
  have HB2 : Hid (Below w.heap.size w ((w.alloc (.cells #[.string xp, .int .i64 xk, .int .i64 xm, .int .i64 xt, .string xb] 27)).alloc (.cells #[.string yp, .bool yg, .string yi, .int .i64 yk, .int .i64 ym, .int .i64 yt, .string yb] 30))) := ((Below.refl _ w).alloc (Nat.le_refl _) _).alloc (by simp) _
  have h2 := hc _ HB2.out
  clear hc
  go_enter Tryz.func28, Tryz.ntmps28
  go_wp2_with fail
  refine h2.mono ?_
  rintro e w1 ⟨rfl, b1⟩
  have HB : Hid (Below w.heap.size w w1) := HB2.out.trans (b1.mono HB2.out.size)
  clear h2 b1
  go_wp2_with fail
  go_ret
  exact ⟨rfl, HB.out⟩
set_option maxHeartbeats 1000000 in
theorem cmpEE_any (x y : Em) (w : World) (hx : x.Ok) (hy : y.Ok) (hT : Tabs w) :
    Calls Tryz.prog 31 #[emV x, emV y] w fun e w' => e = .returned (.int .i64 (Dl.cmp x.ed.path y.ed.path)) ∧ Below w.heap.size w w' := by
  have hc := fun (W : World) (hW : Below w.heap.size w W) => cmpP_any x.path y.path W hx.path hy.path (hT.below hW)
  obtain ⟨xp, xg, xi, xk, xm, xt, xb⟩ := x
  obtain ⟨yp, yg, yi, yk, ym, yt, yb⟩ := y
  have HC : Hid (Dl.cmp (Em.ed ⟨xp, xg, ⟨xi, xk, xm, xt, xb⟩⟩).path (Em.ed ⟨yp, yg, ⟨yi, yk, ym, yt, yb⟩⟩).path = Dl.cmp xp.data.toList yp.data.toList) := rfl
  dsimp only at hc
  rw [HC.out]
  clear HC hx hy hT
  generalize Dl.cmp xp.data.toList yp.data.toList = C at *
  have HB2 : Hid (Below w.heap.size w ((w.alloc (.cells #[.string xp, .bool xg, .string xi, .int .i64 xk, .int .i64 xm, .int .i64 xt, .string xb] 30)).alloc (.cells #[.string yp, .bool yg, .string yi, .int .i64 yk, .int .i64 ym, .int .i64 yt, .string yb] 30))) := ((Below.refl _ w).alloc (Nat.le_refl _) _).alloc (by simp) _
  have h2 := hc _ HB2.out
  clear hc
  go_enter Tryz.func31, Tryz.ntmps31
  go_wp2_with fail
  refine h2.mono ?_
  rintro e w1 ⟨rfl, b1⟩
  have HB : Hid (Below w.heap.size w w1) := HB2.out.trans (b1.mono HB2.out.size)
  clear h2 b1
  go_wp2_with fail
  go_ret
  exact ⟨rfl, HB.out⟩
end Go.Proofs.YthpcbbkpjggjbaaGreatDoor
