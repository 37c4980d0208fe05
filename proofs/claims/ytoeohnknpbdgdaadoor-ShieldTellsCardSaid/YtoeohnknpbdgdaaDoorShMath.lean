/-
  Plain facts (no Go in here): parts and guards are, but for factors that are not 0, the values of one polynomial at unlike numbers: so parts that are not all 0 have fewer shards that are 0 than there are parts.
-/
import Derived.Test.YtoeohnknpbdgdaaDoorFdPoly
namespace Go.Proofs.YtoeohnknpbdgdaaDoor
namespace Fd
open Rl (xor4)

/-- sums of polynomials -/
def padd : List Nat → List Nat → List Nat
  | [], q => q
  | p, [] => p
  | a :: p, b :: q => (a ^^^ b) :: padd p q
theorem hv_padd : ∀ (p q : List Nat) (x : Nat), hv (padd p q) x = hv p x ^^^ hv q x
  | [], q, x => by rw [padd, hv, Nat.zero_xor]
  | a :: p, [], x => by rw [padd, hv.eq_1, Nat.xor_zero]; simp
  | a :: p, b :: q, x => by rw [padd, hv, hv, hv, hv_padd p q x, M_xor, xor4]
theorem padd_len : ∀ (p q : List Nat), (padd p q).length = max p.length q.length
  | [], q => by rw [padd]; simp
  | a :: p, [] => by rw [padd]; · simp
                     · simp
  | a :: p, b :: q => by rw [padd, List.length_cons, padd_len p q, List.length_cons, List.length_cons]; omega
theorem padd_bs : ∀ {p q : List Nat}, Bs p → Bs q → Bs (padd p q)
  | [], q, _, hq => by rw [padd]; exact hq
  | a :: p, [], hp, _ => by rw [padd]; · exact hp
                            · simp
  | a :: p, b :: q, hp, hq => by
    rw [padd]
    intro c hc
    rcases List.mem_cons.mp hc with rfl | hc
    · exact Nat.xor_lt_two_pow (n := 8) hp.head hq.head
    · exact padd_bs hp.tail hq.tail c hc
/-- a polynomial times a number -/
def pmul (c : Nat) (p : List Nat) : List Nat := p.map (M c)
theorem hv_pmul {c : Nat} (hc : c < 256) {x : Nat} (hx : x < 256) : ∀ {p : List Nat}, Bs p → hv (pmul c p) x = M c (hv p x)
  | [], _ => (M_zero c).symm
  | a :: p, h => by
    have h1 := hv_lt h.tail hx
    show M c a ^^^ M x (hv (pmul c p) x) = _
    rw [hv_pmul hc hx h.tail, hv, M_xor, ← M_assoc hx hc h1, ← M_assoc hc hx h1, M_comm hx hc]
theorem pmul_len (c : Nat) (p : List Nat) : (pmul c p).length = p.length := List.length_map ..
theorem pmul_bs {c : Nat} (hc : c < 256) (p : List Nat) : Bs (pmul c p) := fun d hd => by
  obtain ⟨a, _, rfl⟩ := List.mem_map.mp hd
  exact M_lt hc a
/-- a polynomial times y + c -/
def pm (c : Nat) (p : List Nat) : List Nat := padd (0 :: p) (pmul c p)
theorem hv_pm {c : Nat} (hc : c < 256) {x : Nat} (hx : x < 256) {p : List Nat} (h : Bs p) : hv (pm c p) x = M (x ^^^ c) (hv p x) := by
  rw [pm, hv_padd, hv_pmul hc hx h, hv, Nat.zero_xor, xor_M]
theorem pm_len (c : Nat) (p : List Nat) : (pm c p).length = p.length + 1 := by
  rw [pm, padd_len, pmul_len, List.length_cons]; omega
theorem pm_bs {c : Nat} (hc : c < 256) {p : List Nat} (h : Bs p) : Bs (pm c p) := by
  refine padd_bs ?_ (pmul_bs hc p)
  intro d hd
  rcases List.mem_cons.mp hd with rfl | hd
  · omega
  · exact h d hd

/-- all y + i, y + i + 1 .. multiplied -/
def Dp : Nat → Nat → List Nat
  | _, 0 => [1]
  | i, n + 1 => pm i (Dp (i + 1) n)
def dval : Nat → Nat → Nat → Nat
  | _, 0, _ => 1
  | i, n + 1, y => M (y ^^^ i) (dval (i + 1) n y)
theorem Dp_len : ∀ i n, (Dp i n).length = n + 1
  | _, 0 => rfl
  | i, n + 1 => by rw [Dp, pm_len, Dp_len]
theorem Dp_bs : ∀ i n, i + n ≤ 256 → Bs (Dp i n)
  | _, 0, _ => fun c hc => by rw [List.mem_singleton.mp hc]; omega
  | i, n + 1, h => pm_bs (by omega) (Dp_bs (i + 1) n (by omega))
theorem xor_lt8 {a b : Nat} (ha : a < 256) (hb : b < 256) : a ^^^ b < 256 := Nat.xor_lt_two_pow (n := 8) ha hb
theorem xor_zero_iff {a b : Nat} : a ^^^ b = 0 ↔ a = b := by
  constructor
  · intro h
    have : a ^^^ b ^^^ b = 0 ^^^ b := by rw [h]
    rwa [Nat.xor_assoc, Nat.xor_self, Nat.xor_zero, Nat.zero_xor] at this
  · rintro rfl; exact Nat.xor_self a
theorem dval_lt : ∀ {i n y}, i + n ≤ 256 → y < 256 → dval i n y < 256
  | _, 0, _, _, _ => by show (1 : Nat) < _; omega
  | _, _ + 1, _, _, hy => M_lt (xor_lt8 hy (by omega)) _
theorem hv_Dp : ∀ {i n y}, i + n ≤ 256 → y < 256 → hv (Dp i n) y = dval i n y
  | _, 0, _, _, _ => by show 1 ^^^ M _ 0 = 1; rw [M_zero]; rfl
  | i, n + 1, y, h, hy => by rw [Dp, hv_pm (by omega) hy (Dp_bs _ _ (by omega)), hv_Dp (by omega) hy, dval]
theorem dval_zero : ∀ {i n y}, i + n ≤ 256 → y < 256 → (dval i n y = 0 ↔ i ≤ y ∧ y < i + n)
  | i, 0, y, _, _ => by
    show (1 : Nat) = 0 ↔ _
    omega
  | i, n + 1, y, h, hy => by
    rw [dval, M_eq_zero (xor_lt8 hy (by omega)) (dval_lt (by omega) hy), dval_zero (by omega) hy, xor_zero_iff]
    omega
/-- the polynomial of the parts' bytes at one place -/
def Np : Nat → List Nat → List Nat
  | _, [] => []
  | i, c :: v => padd (pmul c (Dp (i + 1) v.length)) (pm i (Np (i + 1) v))
def nval : Nat → List Nat → Nat → Nat
  | _, [], _ => 0
  | i, c :: v, y => M c (dval (i + 1) v.length y) ^^^ M (y ^^^ i) (nval (i + 1) v y)
theorem Np_len : ∀ i v, (Np i v).length = v.length
  | _, [] => rfl
  | i, c :: v => by rw [Np, padd_len, pmul_len, pm_len, Dp_len, Np_len, List.length_cons]; omega
theorem Np_bs : ∀ {i v}, i + v.length ≤ 256 → Bs v → Bs (Np i v)
  | _, [], _, _ => fun _ h => by cases h
  | i, c :: v, h, hb => by
    rw [List.length_cons] at h
    exact padd_bs (pmul_bs hb.head _) (pm_bs (by omega) (Np_bs (by omega) hb.tail))
theorem hv_Np : ∀ {i v y}, i + v.length ≤ 256 → Bs v → y < 256 → hv (Np i v) y = nval i v y
  | _, [], _, _, _, _ => rfl
  | i, c :: v, y, h, hb, hy => by
    rw [List.length_cons] at h
    rw [Np, hv_padd, hv_pmul hb.head hy (Dp_bs _ _ (by omega)), hv_pm (by omega) hy (Np_bs (by omega) hb.tail), hv_Dp (by omega) hy, hv_Np (by omega) hb.tail hy, nval]
theorem nval_lt {i v y} (h : i + v.length ≤ 256) (hb : Bs v) (hy : y < 256) : nval i v y < 256 := by
  rw [← hv_Np h hb hy]; exact hv_lt (Np_bs h hb) hy
/-- at a part's own number the value is the part's byte, but for a factor -/
theorem nval_own : ∀ {i : Nat} {v : List Nat}, i + v.length ≤ 256 → Bs v → ∀ (k : Nat) (hk : k < v.length), nval i v (i + k) = 0 ↔ v[k] = 0
  | _, [], _, _, k, hk => by cases hk
  | i, c :: v, h, hb, 0, _ => by
    rw [List.length_cons] at h
    have hd := dval_lt (i := i + 1) (n := v.length) (y := i) (by omega) (by omega)
    have hz := dval_zero (i := i + 1) (n := v.length) (y := i) (by omega) (by omega)
    rw [Nat.add_zero, nval, Nat.xor_self, zero_M, Nat.xor_zero, M_eq_zero hb.head hd, hz]
    show c = 0 ∨ _ ↔ c = 0
    omega
  | i, c :: v, h, hb, k + 1, hk => by
    rw [List.length_cons] at h hk
    have hz := (dval_zero (i := i + 1) (n := v.length) (y := i + (k + 1)) (by omega) (by omega)).mpr (by omega)
    have hne : i + (k + 1) ^^^ i ≠ 0 := fun e => by have := xor_zero_iff.mp e; omega
    rw [nval, hz, M_zero, Nat.zero_xor, M_eq_zero (xor_lt8 (by omega) (by omega)) (nval_lt (by omega) hb.tail (by omega))]
    have ih := nval_own (i := i + 1) (v := v) (by omega) hb.tail k (by omega)
    rw [show i + 1 + k = i + (k + 1) from by omega] at ih
    rw [ih]
    show _ ∨ v[k] = 0 ↔ v[k] = 0
    exact ⟨fun h => h.resolve_left hne, .inr⟩
/-- P25: a guard's byte -/
def gsum : Nat → List Nat → Nat → Nat
  | _, [], _ => 0
  | i, c :: v, y => M (inv (y ^^^ i)) c ^^^ gsum (i + 1) v y
theorem gsum_lt : ∀ {i v y}, i + v.length ≤ 256 → Bs v → y < 256 → (y < i ∨ i + v.length ≤ y) → gsum i v y < 256
  | _, [], _, _, _, _, _ => by show (0 : Nat) < _; omega
  | i, c :: v, y, h, hb, hy, ho => by
    rw [List.length_cons] at h ho
    have hne : y ^^^ i ≠ 0 := fun e => by have := xor_zero_iff.mp e; omega
    exact xor_lt8 (M_lt (inv_ok (xor_lt8 hy (by omega)) hne).1 _) (gsum_lt (by omega) hb.tail hy (by omega))
/-- at another number the value is the guard's byte, but for a factor -/
theorem nval_other : ∀ {i : Nat} {v : List Nat} {y : Nat}, i + v.length ≤ 256 → Bs v → y < 256 → (y < i ∨ i + v.length ≤ y) → nval i v y = M (dval i v.length y) (gsum i v y)
  | _, [], _, _, _, _, _ => (M_zero _).symm
  | i, c :: v, y, h, hb, hy, ho => by
    rw [List.length_cons] at h ho
    have hne : y ^^^ i ≠ 0 := fun e => by have := xor_zero_iff.mp e; omega
    have hx := xor_lt8 hy (b := i) (by omega)
    obtain ⟨h1, h2⟩ := inv_ok hx hne
    have hd := dval_lt (i := i + 1) (n := v.length) (y := y) (by omega) hy
    have hg := gsum_lt (i := i + 1) (v := v) (y := y) (by omega) hb.tail hy (by omega)
    rw [nval, nval_other (by omega) hb.tail hy (by omega), List.length_cons, dval, gsum, M_xor]
    congr 1
    · rw [M_assoc hx hd (M_lt h1 c), ← M_assoc hd h1 hb.head, M_comm hd h1, M_assoc h1 hd hb.head, ← M_assoc hx h1 (M_lt hd c), h2, one_M (M_lt hd c), M_comm hb.head hd]
    · rw [M_assoc hx hd hg]
theorem nval_other_zero {i : Nat} {v : List Nat} {y : Nat} (h : i + v.length ≤ 256) (hb : Bs v) (hy : y < 256) (ho : y < i ∨ i + v.length ≤ y) : nval i v y = 0 ↔ gsum i v y = 0 := by
  rw [nval_other h hb hy ho, M_eq_zero (dval_lt h hy) (gsum_lt h hb hy ho), dval_zero h hy]
  exact ⟨fun h => h.resolve_left (by omega), .inr⟩

/-- P25: shard k of parts whose bytes at a place are v -/
def sh (v : List Nat) (k : Nat) : Nat := if h : k < v.length then v[k] else gsum 0 v (128 + (k - v.length))
/-- the number at which the polynomial is shard k -/
def pt (n k : Nat) : Nat := if k < n then k else 128 + (k - n)
theorem sh_zero {v : List Nat} (hb : Bs v) (hn : v.length ≤ 128) {k : Nat} (hk : k < v.length + 128) : hv (Np 0 v) (pt v.length k) = 0 ↔ sh v k = 0 := by
  unfold pt sh
  by_cases h : k < v.length
  · rw [if_pos h, dif_pos h, hv_Np (by omega) hb (by omega)]
    have := nval_own (i := 0) (v := v) (by omega) hb k h
    rwa [Nat.zero_add] at this
  · rw [if_neg h, dif_neg h, hv_Np (by omega) hb (by omega)]
    exact nval_other_zero (by omega) hb (by omega) (by omega)
theorem Np_nz {v : List Nat} (hb : Bs v) (hn : v.length ≤ 128) (h : ∃ c ∈ v, c ≠ 0) : ∃ c ∈ Np 0 v, c ≠ 0 := by
  refine Classical.byContradiction fun hq => ?_
  obtain ⟨c, hc, h0⟩ := h
  obtain ⟨k, hk, rfl⟩ := List.getElem_of_mem hc
  have h1 := hv_zero (p := Np 0 v) (fun c hc => Classical.byContradiction fun h2 => hq ⟨c, hc, h2⟩) (0 + k)
  rw [hv_Np (by omega) hb (by omega)] at h1
  exact h0 ((nval_own (by omega) hb k hk).mp h1)
theorem rts_mono (p : List Nat) (k : Nat) : ∀ d, rts p k ≤ rts p (k + d)
  | 0 => Nat.le_refl _
  | d + 1 => by
    have := rts_mono p k d
    rw [← Nat.add_assoc, rts]
    omega
theorem rts_mono' (p : List Nat) {k l : Nat} (h : k ≤ l) : rts p k ≤ rts p l := by
  obtain ⟨d, rfl⟩ := Nat.exists_eq_add_of_le h
  exact rts_mono p k d
/-- how many of the first m shards are 0 -/
def zs (v : List Nat) : Nat → Nat
  | 0 => 0
  | m + 1 => zs v m + if sh v m = 0 then 1 else 0
theorem zs_rts {v : List Nat} (hb : Bs v) (hn : v.length ≤ 128) : ∀ m, m ≤ v.length + 128 → zs v m ≤ rts (Np 0 v) (pt v.length m)
  | 0, _ => by show (0 : Nat) ≤ _; omega
  | m + 1, h => by
    have ih := zs_rts hb hn m (by omega)
    have hz := sh_zero hb hn (k := m) (by omega)
    have hp : pt v.length m + 1 ≤ pt v.length (m + 1) := by
      unfold pt
      split <;> split <;> omega
    have h2 := rts_mono' (Np 0 v) hp
    rw [rts] at h2
    rw [zs]
    by_cases h0 : sh v m = 0
    · rw [if_pos h0]; rw [if_pos (hz.mpr h0)] at h2; omega
    · rw [if_neg h0]; omega
/-- REED, SOLOMON, SINGLETON: parts that are not all 0 have fewer shards that are 0 than there are parts -/
theorem zs_lt {v : List Nat} (hb : Bs v) (hn : v.length ≤ 128) (h : ∃ c ∈ v, c ≠ 0) {m : Nat} (hm : m ≤ v.length + 128) : zs v m < v.length := by
  have hp : pt v.length m ≤ 256 := by unfold pt; split <;> omega
  have h1 := zs_rts hb hn m hm
  have h2 := rts_mono' (Np 0 v) hp
  have hl : 0 < v.length := by obtain ⟨c, hc, _⟩ := h; exact List.length_pos_of_mem hc
  have h3 := rts_le (v.length - 1) (Np 0 v) (Np_bs (by omega) hb) (by rw [Np_len]; omega) (Np_nz hb hn h)
  omega
/-- shards of sums are sums of shards -/
theorem gsum_xor : ∀ (i : Nat) (v w : List Nat), v.length = w.length → ∀ y, gsum i (List.zipWith (· ^^^ ·) v w) y = gsum i v y ^^^ gsum i w y
  | _, [], [], _, _ => (Nat.xor_self 0).symm
  | i, c :: v, d :: w, h, y => by
    have h' : v.length = w.length := by simpa using h
    rw [List.zipWith_cons_cons, gsum, gsum, gsum, gsum_xor (i + 1) v w h' y, M_xor, xor4]
  | _, [], _ :: _, h, _ => by simp at h
  | _, _ :: _, [], h, _ => by simp at h
theorem sh_xor {v w : List Nat} (h : v.length = w.length) (k : Nat) : sh (List.zipWith (· ^^^ ·) v w) k = sh v k ^^^ sh w k := by
  have hl : (List.zipWith (· ^^^ ·) v w).length = v.length := by rw [List.length_zipWith]; omega
  unfold sh
  by_cases hk : k < v.length
  · rw [dif_pos hk, dif_pos (by omega), dif_pos (by omega), List.getElem_zipWith]
  · rw [dif_neg hk, dif_neg (by omega), dif_neg (by omega), hl, gsum_xor 0 v w h, h]
/-- how many of the first m shards of the two are alike -/
def alike (v w : List Nat) : Nat → Nat
  | 0 => 0
  | m + 1 => alike v w m + if sh v m = sh w m then 1 else 0
theorem alike_zs {v w : List Nat} (h : v.length = w.length) : ∀ m, alike v w m = zs (List.zipWith (· ^^^ ·) v w) m
  | 0 => rfl
  | m + 1 => by
    rw [alike, zs, alike_zs h m, sh_xor h]
    by_cases he : sh v m = sh w m
    · rw [if_pos he, if_pos (xor_zero_iff.mpr he)]
    · rw [if_neg he, if_neg (fun e => he (xor_zero_iff.mp e))]
theorem zip_nz : ∀ {v w : List Nat}, v.length = w.length → v ≠ w → ∃ c ∈ List.zipWith (· ^^^ ·) v w, c ≠ 0
  | [], [], _, h => absurd rfl h
  | c :: v, d :: w, hl, h => by
    rw [List.zipWith_cons_cons]
    by_cases he : c = d
    · subst he
      obtain ⟨e, h1, h2⟩ := zip_nz (v := v) (w := w) (by simpa using hl) (fun e => h (by rw [e]))
      exact ⟨e, List.mem_cons_of_mem _ h1, h2⟩
    · exact ⟨_, List.mem_cons_self .., fun e => he (xor_zero_iff.mp e)⟩
  | [], _ :: _, h, _ => by simp at h
  | _ :: _, [], h, _ => by simp at h
theorem zip_bs : ∀ {v w : List Nat}, Bs v → Bs w → Bs (List.zipWith (· ^^^ ·) v w)
  | [], _, _, _ => fun c hc => by rw [List.zipWith_nil_left] at hc; cases hc
  | _ :: _, [], _, _ => fun c hc => by rw [List.zipWith_nil_right] at hc; cases hc
  | c :: v, d :: w, hv, hw => by
    rw [List.zipWith_cons_cons]
    intro e he
    rcases List.mem_cons.mp he with rfl | he
    · exact xor_lt8 hv.head hw.head
    · exact zip_bs hv.tail hw.tail e he
/-- unlike parts have fewer shards alike than there are parts -/
theorem alike_lt {v w : List Nat} (hl : v.length = w.length) (hv : Bs v) (hw : Bs w) (hn : v.length ≤ 128) (h : v ≠ w) {m : Nat} (hm : m ≤ v.length + 128) : alike v w m < v.length := by
  have e : (List.zipWith (· ^^^ ·) v w).length = v.length := by rw [List.length_zipWith]; omega
  rw [alike_zs hl]
  have := zs_lt (zip_bs hv hw) (by omega) (zip_nz hl h) (m := m) (by omega)
  omega
end Fd
end Go.Proofs.YtoeohnknpbdgdaaDoor
