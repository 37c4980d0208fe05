/-
  What someBlob of package lumkeep answers.
  What unseal of package pack answers.
  What List of package pack answers.
-/
import Derived.Test.YtkhejelmjkpgfaaG7
import Derived.Test.YtkhejelmjkpgfaaG9
import Derived.Test.YtkhejelmjkpgfaaG1
import Derived.Test.YtkhejelmjkpgfaaG3

namespace Go.Proofs.Ytkhejelmjkpgfaa
open Go.RowKit
set_option maxRecDepth 4000

def abB : Blb := ⟨1, ⟨#[97, 98]⟩⟩
theorem ab_fine : Pk.makeErr ([abB].map Blb.p) = 0 := by
  have h1 : Pk.bErr abB.p = 0 := rfl
  show (if 40 < 1 then (2 : Int) else Pk.mErr [] [abB.p]) = 0
  rw [if_neg (by omega), Pk.mErr, if_neg (fun h => h h1), if_neg (by simp), if_neg (by simp)]
  rfl
theorem ab_long {s : ByteArray} (h : MkOut s [abB]) : 20 ≤ s.size ∧ s.size ≤ 10000 := by
  obtain ⟨ps, h1, h2⟩ := h.2 ab_fine
  rw [Lib.size_eq, h2, Pk.packB_length]
  match ps, h1 with
  | [p], ⟨hp, _⟩ =>
    have hpl := hp.le (by show (2 : Nat) ≤ 4096; omega)
    have e1 := put_le 1
    have e2 := put_le p.length
    have e3 := Pk.bid_length abB.p
    have e4 : (Pk.listB [abB.p] [p]).length = (Nm.put 1).length + (1 + (8 + (Nm.put p.length).length)) := by
      show (Nm.put 1 ++ (Pk.rowB abB.p p ++ [])).length = _
      rw [List.append_nil, List.length_append, Pk.rowB, List.length_cons, List.length_append, e3]
      omega
    show 20 ≤ [p].flatten.length + (Pk.listB [abB.p] [p]).length + 10 ∧ [p].flatten.length + (Pk.listB [abB.p] [p]).length + 10 ≤ 10000
    rw [e4]
    simp only [List.flatten_cons, List.flatten_nil, List.append_nil]
    omega

set_option maxHeartbeats 1000000 in
theorem some_any (w : World) :
    Calls Try.prog 21 #[] w fun e w' => ∃ s : ByteArray, e = .returned (.tuple #[.agg #[.int .i64 1, .string ⟨#[97, 98]⟩], .string s]) ∧ 20 ≤ s.size ∧ s.size ≤ 10000 ∧ Below w.heap.size w w' := by
  obtain ⟨W3, hW3⟩ : ∃ W3, W3 = ((w.alloc (.cells #[.int .i64 0, .string ⟨#[]⟩] 24)).alloc (.cells #[.int .i64 1, .string ⟨#[97, 98]⟩] 24)).alloc (.cells #[.int .i64 1, .string ⟨#[97, 98]⟩] 24) := ⟨_, rfl⟩
  have hsz : W3.heap.size = w.heap.size + 3 := by rw [hW3]; simp
  have hR : Cz W3 w.heap.size (#[.int .i64 0, .string ⟨#[]⟩] : Array Value).toList := by
    rw [hW3]
    exact ((Cz.new w _ _).below ((Below.refl _ _).alloc (Nat.le_refl _) _) (by simp)).below ((Below.refl _ _).alloc (Nat.le_refl _) _) (by simp; omega)
  have hT : Cz W3 (w.heap.size + 1) (#[.int .i64 1, .string ⟨#[97, 98]⟩] : Array Value).toList := by
    rw [hW3]
    have := Cz.new (w.alloc (.cells #[.int .i64 0, .string ⟨#[]⟩] 24)) #[.int .i64 1, .string ⟨#[97, 98]⟩] 24
    rw [World.size_alloc] at this
    exact this.below ((Below.refl _ _).alloc (Nat.le_refl _) _) (by simp)
  have hS : Cz W3 (w.heap.size + 2) (#[.int .i64 1, .string ⟨#[97, 98]⟩] : Array Value).toList := by
    rw [hW3]
    have := Cz.new ((w.alloc (.cells #[.int .i64 0, .string ⟨#[]⟩] 24)).alloc (.cells #[.int .i64 1, .string ⟨#[97, 98]⟩] 24)) #[.int .i64 1, .string ⟨#[97, 98]⟩] 24
    rw [World.size_alloc, World.size_alloc] at this
    exact this
  have hB3 : Below w.heap.size w W3 := by rw [hW3]; exact (((Below.refl _ w).alloc (Nat.le_refl _) _).alloc (by simp) _).alloc (by simp; omega) _
  have hbx : Bx W3 (.slice (some ⟨w.heap.size + 2, 0, none⟩) 1 1) [abB] := by
    refine ⟨.inr ⟨w.heap.size + 2, 0, 1, rfl, hS.lt, fun j t hj r u hu => ?_⟩, _, _, _, rfl, Nat.le_refl _, by omega⟩
    match j, hj with
    | 0, hj =>
      obtain rfl : abB = t := by simpa using hj
      rw [Nat.zero_mul, Nat.zero_add]
      exact hS.at_ r u hu
  have hmk := pkmake_any _ [abB] W3 hbx (fun b hb => by
    have e : b = abB := by simpa using hb
    rw [e]
    exact ⟨by decide, by show (2 : Nat) ≤ 9223372036854775807; omega⟩) (by show (1 : Nat) ≤ 140737488351232; omega)
  rw [ab_fine] at hmk
  clear hbx hS
  go_enter Try.func21, Try.ntmps21
  go_wp2_with fail
  rw [← hW3]
  clear hW3
  refine hmk.mono ?_
  rintro e w4 ⟨s, rfl, ho, hb4⟩
  have HZ : Hid (20 ≤ s.size ∧ s.size ≤ 10000) := ab_long ho
  have hR4 := hR.below hb4 hR.lt
  have hT4 := hT.below hb4 hT.lt
  have t0 := hT4.at_ 0 _ rfl
  have t1 := hT4.at_ 1 _ rfl
  have r0 := hR4.at_ 0 _ rfl
  have r1 := hR4.at_ 1 _ rfl
  have f0 := hR4.fz 0
  have f1 := hR4.fz 1
  have HB : Hid (∀ x y, Below w.heap.size w ((w4.setCell ⟨w.heap.size, 0, none⟩ x).setCell ⟨w.heap.size, 1, none⟩ y)) := fun x y => ((hB3.trans (hb4.mono hB3.size)).setCell (Nat.le_refl _) _).setCell (Nat.le_refl _) _
  clear hR hT hR4 hT4 hb4 hB3 hmk ho hsz
  go_wp2_with fail
  refine bodyPost_ret (v := .tuple #[.agg #[.int .i64 1, .string ⟨#[97, 98]⟩], .string s]) ?_ rfl ⟨s, rfl, HZ.out.1, HZ.out.2, HB.out _ _⟩
  have hres : Try.f21.results = #[.cell 0 24, .tmp 1] := by kernel_rfl
  simp only [results, hres]
  go_simp
end Go.Proofs.Ytkhejelmjkpgfaa

namespace Go.Proofs.Ytkhejelmjkpgfaa
open Go.RowKit
set_option maxRecDepth 4000

theorem or_size (a b : Nat) (ha : a < 256) (hb : b < 256) : bits BinOp.or IntKind.i64 (a : Int) ((b : Int) * 256) = ((a + 256 * b : Nat) : Int) := by
  have e : ∀ c : Nat, c < 9223372036854775808 → (BitVec.ofInt 64 (c : Int)).toNat = c := fun c hc => by
    rw [BitVec.ofInt_natCast, BitVec.toNat_ofNat]; exact Nat.mod_eq_of_lt (by omega)
  have h2 : a ||| b * 256 = a + 256 * b := by
    have := Nat.two_pow_add_eq_or_of_lt (i := 8) (b := a) (by omega) b
    rw [Nat.or_comm, Nat.mul_comm b 256, ← show 2 ^ 8 = 256 from rfl, ← this]
    omega
  rw [show (b : Int) * 256 = ((b * 256 : Nat) : Int) from by simp]
  show IntKind.i64.wrap ((BitVec.ofInt 64 (a : Int) ||| BitVec.ofInt 64 ((b * 256 : Nat) : Int)).toNat : Int) = _
  rw [BitVec.toNat_or, e a (by omega), e _ (by omega), h2, IntKind.wrap_i64]
  omega

set_option maxHeartbeats 2000000 in
theorem unseal_of (x0 x1 x2 x3 x4 x5 x6 x7 y0 y1 y2 y3 y4 y5 y6 y7 : UInt8) (s : ByteArray) (m m1 n2 : Nat) (w : World) (H10 : 10 ≤ s.size) (hs : s.size ≤ 140737488351232) (_hm : m + 10 ≤ s.size) (_hm1 : m1 + 9 ≤ s.size) (i3 : (m : Int) + 1 = (m1 : Int)) (_hn2 : n2 + 8 ≤ s.size)
    (i1 : (s.size : Int) - 8 = (n2 : Int)) (i2 : (s.size : Int) - 10 = (m : Int))
    (ha : ∀ W, Calls Try.prog 48 #[.string (s.extract n2 s.size)] W fun e w' => e = .returned (.agg #[.int .u8 (x0.toNat : Int), .int .u8 (x1.toNat : Int), .int .u8 (x2.toNat : Int), .int .u8 (x3.toNat : Int), .int .u8 (x4.toNat : Int), .int .u8 (x5.toNat : Int), .int .u8 (x6.toNat : Int), .int .u8 (x7.toNat : Int)]) ∧ Below W.heap.size W w')
    (hd : ∀ W, Calls Try.prog 24 #[.string (s.extract 0 n2)] W fun e w' => e = .returned (.agg #[.int .u8 (y0.toNat : Int), .int .u8 (y1.toNat : Int), .int .u8 (y2.toNat : Int), .int .u8 (y3.toNat : Int), .int .u8 (y4.toNat : Int), .int .u8 (y5.toNat : Int), .int .u8 (y6.toNat : Int), .int .u8 (y7.toNat : Int)]) ∧ Below W.heap.size W w')
    (heq : ∀ W, (Op.equalIn 10000 26 (.agg #[.int .u8 (x0.toNat : Int), .int .u8 (x1.toNat : Int), .int .u8 (x2.toNat : Int), .int .u8 (x3.toNat : Int), .int .u8 (x4.toNat : Int), .int .u8 (x5.toNat : Int), .int .u8 (x6.toNat : Int), .int .u8 (x7.toNat : Int)]) (.agg #[.int .u8 (y0.toNat : Int), .int .u8 (y1.toNat : Int), .int .u8 (y2.toNat : Int), .int .u8 (y3.toNat : Int), .int .u8 (y4.toNat : Int), .int .u8 (y5.toNat : Int), .int .u8 (y6.toNat : Int), .int .u8 (y7.toNat : Int)])).run Try.prog W = .ok true W) (SZ : Nat) (HSZ : Hid ((s[m]'(by omega)).toNat + 256 * (s[m1]'(by omega)).toNat = SZ)) :
    Calls Try.prog 33 #[.string s] w fun e w' => e = .returned (if m < SZ then .tuple #[.string ⟨#[]⟩, .string ⟨#[]⟩, .int .i64 4] else .tuple #[.string ((s.extract 0 m).extract 0 (m - SZ)), .string ((s.extract 0 m).extract (m - SZ) m), .int .i64 0]) ∧ Below w.heap.size w w' := by
  have z1 : (s.extract 0 n2).size = n2 := by rw [ByteArray.size_extract]; omega
  have z2 : (s.extract 0 m).size = m := by rw [ByteArray.size_extract]; omega
  have j1 : m < s.size := by omega
  have j2 : m1 < s.size := by omega
  have g0 := s[m].toNat_lt
  have g1 := s[m1].toNat_lt
  have hor := or_size s[m].toNat s[m1].toNat g0 g1
  rw [HSZ.out] at hor
  have hSZ : SZ ≤ 65535 := by rw [← HSZ.out]; omega
  obtain ⟨RES, hRES⟩ : ∃ RES, (if m < SZ then Value.tuple #[.string ⟨#[]⟩, .string ⟨#[]⟩, .int .i64 4] else .tuple #[.string ((s.extract 0 m).extract 0 (m - SZ)), .string ((s.extract 0 m).extract (m - SZ) m), .int .i64 0]) = RES := ⟨_, rfl⟩
  rw [hRES]
  have HRES : Hid ((if m < SZ then Value.tuple #[.string ⟨#[]⟩, .string ⟨#[]⟩, .int .i64 4] else .tuple #[.string ((s.extract 0 m).extract 0 (m - SZ)), .string ((s.extract 0 m).extract (m - SZ) m), .int .i64 0]) = RES) := hRES
  clear hRES
  go_enter Try.func33, Try.ntmps33
  go_wp2_with fail
  refine (ha _).mono ?_
  rintro e w1 ⟨rfl, hb1⟩
  go_wp2_with fail
  refine (hd _).mono ?_
  rintro e w2 ⟨rfl, hb2⟩
  have HB2 : Hid (Below w.heap.size w w2) := hb1.trans (hb2.mono hb1.size)
  clear hb1 hb2 ha hd
  go_wp2_with fail
  have hne : Nonempty (Since w2.heap.size w2) := ⟨⟨w2, Below.refl _ _⟩⟩
  refine wp_region_since (B := w2.heap.size) (W0 := w2) (by kernel_rfl) (by kernel_rfl) (Below.refl _ _) ?_
  repeat (go_big_quiet_step (fail))
  refine wpQuiet_nil ?_
  rintro w3 ⟨U, rfl⟩
  have HU := U.property
  have HB3 : Hid (Below w.heap.size w U.val) := HB2.out.trans (U.property.mono HB2.out.size)
  generalize U.val = w3 at *
  clear hor hne heq
  by_cases hlt : m < SZ
  · rw [if_pos hlt] at HRES
    clear HU
    go_wp2_with fail
    go_ret3
    exact ⟨by rw [← HRES.out]; rfl, HB3.out⟩
  · rw [if_neg hlt] at HRES
    have hle : SZ ≤ m := by omega
    obtain ⟨r, hr⟩ : ∃ r, m - SZ = r := ⟨_, rfl⟩
    have i5 : (m : Int) - (SZ : Int) = (r : Int) := by omega
    have hrm : r ≤ m := by omega
    rw [hr] at HRES
    clear hlt hr HU
    go_wp2_with fail
    have hne : Nonempty (Since w3.heap.size w3) := ⟨⟨w3, Below.refl _ _⟩⟩
    refine wp_region_since (B := w3.heap.size) (W0 := w3) (by kernel_rfl) (by kernel_rfl) (Below.refl _ _) ?_
    repeat (go_big_quiet_step (fail))
    refine wpQuiet_nil ?_
    rintro w4 ⟨V, rfl⟩
    have HB4 : Hid (Below w.heap.size w V.val) := HB3.out.trans (V.property.mono HB3.out.size)
    generalize V.val = w4 at *
    clear hne
    go_wp2_with fail
    go_ret3
    exact ⟨by rw [← HRES.out]; rfl, HB4.out⟩

theorem unseal_short (s : ByteArray) (w : World) (hs : s.size < 10) :
    Calls Try.prog 33 #[.string s] w fun e w' => e = .returned (.tuple #[.string ⟨#[]⟩, .string ⟨#[]⟩, .int .i64 3]) ∧ Below w.heap.size w w' := by
  go_enter Try.func33, Try.ntmps33
  go_wp2_with fail
  go_ret3
  exact ⟨rfl, Below.refl _ _⟩

set_option maxHeartbeats 2000000 in
theorem unseal_sum (x0 x1 x2 x3 x4 x5 x6 x7 y0 y1 y2 y3 y4 y5 y6 y7 : UInt8) (s : ByteArray) (n2 : Nat) (w : World) (H10 : 10 ≤ s.size) (hs : s.size ≤ 140737488351232) (_hn2 : n2 + 8 ≤ s.size)
    (i1 : (s.size : Int) - 8 = (n2 : Int))
    (ha : ∀ W, Calls Try.prog 48 #[.string (s.extract n2 s.size)] W fun e w' => e = .returned (.agg #[.int .u8 (x0.toNat : Int), .int .u8 (x1.toNat : Int), .int .u8 (x2.toNat : Int), .int .u8 (x3.toNat : Int), .int .u8 (x4.toNat : Int), .int .u8 (x5.toNat : Int), .int .u8 (x6.toNat : Int), .int .u8 (x7.toNat : Int)]) ∧ Below W.heap.size W w')
    (hd : ∀ W, Calls Try.prog 24 #[.string (s.extract 0 n2)] W fun e w' => e = .returned (.agg #[.int .u8 (y0.toNat : Int), .int .u8 (y1.toNat : Int), .int .u8 (y2.toNat : Int), .int .u8 (y3.toNat : Int), .int .u8 (y4.toNat : Int), .int .u8 (y5.toNat : Int), .int .u8 (y6.toNat : Int), .int .u8 (y7.toNat : Int)]) ∧ Below W.heap.size W w')
    (heq : ∀ W, (Op.equalIn 10000 26 (.agg #[.int .u8 (x0.toNat : Int), .int .u8 (x1.toNat : Int), .int .u8 (x2.toNat : Int), .int .u8 (x3.toNat : Int), .int .u8 (x4.toNat : Int), .int .u8 (x5.toNat : Int), .int .u8 (x6.toNat : Int), .int .u8 (x7.toNat : Int)]) (.agg #[.int .u8 (y0.toNat : Int), .int .u8 (y1.toNat : Int), .int .u8 (y2.toNat : Int), .int .u8 (y3.toNat : Int), .int .u8 (y4.toNat : Int), .int .u8 (y5.toNat : Int), .int .u8 (y6.toNat : Int), .int .u8 (y7.toNat : Int)])).run Try.prog W = .ok false W) :
    Calls Try.prog 33 #[.string s] w fun e w' => e = .returned (.tuple #[.string ⟨#[]⟩, .string ⟨#[]⟩, .int .i64 6]) ∧ Below w.heap.size w w' := by
  have z1 : (s.extract 0 n2).size = n2 := by rw [ByteArray.size_extract]; omega
  go_enter Try.func33, Try.ntmps33
  go_wp2_with fail
  refine (ha _).mono ?_
  rintro e w1 ⟨rfl, hb1⟩
  go_wp2_with fail
  refine (hd _).mono ?_
  rintro e w2 ⟨rfl, hb2⟩
  have HB2 : Hid (Below w.heap.size w w2) := hb1.trans (hb2.mono hb1.size)
  clear hb1 hb2 ha hd
  go_wp2_with fail
  go_ret3
  exact ⟨rfl, HB2.out⟩

/-- what unseal says: the body, the list, the error -/
def us (s : List UInt8) : List UInt8 × List UInt8 × Int :=
  if s.length < 10 then ([], [], 3) else
  if Pk.dg (s.take (s.length - 8)) ≠ s.drop (s.length - 8) then ([], [], 6) else
  if s.length - 10 < Pk.lenL s then ([], [], 4) else
  (s.take (s.length - 10 - Pk.lenL s), (s.take (s.length - 10)).drop (s.length - 10 - Pk.lenL s), 0)
theorem ext_upto (s : ByteArray) (n : Nat) : (s.extract 0 n).data.toList = s.data.toList.take n := by
  rw [Lib.extract_data, List.drop_zero, Nat.sub_zero]
theorem get_at (s : ByteArray) (k : Nat) (h : k < s.size) : s.data.toList.getD k 0 = s[k] := by
  rw [List.getD_eq_getElem?_getD, List.getElem?_eq_getElem (by rw [← Lib.size_eq]; exact h)]; rfl
theorem us_any (s : ByteArray) (w : World) (hs : s.size ≤ 140737488351232) :
    Calls Try.prog 33 #[.string s] w fun e w' => ∃ b l : ByteArray, e = .returned (.tuple #[.string b, .string l, .int .i64 (us s.data.toList).2.2]) ∧ b.data.toList = (us s.data.toList).1 ∧ l.data.toList = (us s.data.toList).2.1 ∧ Below w.heap.size w w' := by
  have hsz : s.data.toList.length = s.size := (Lib.size_eq s).symm
  unfold us
  rw [hsz]
  by_cases h10 : s.size < 10
  · rw [if_pos h10]
    exact (unseal_short s w h10).mono fun e w' ⟨he, hb⟩ => ⟨⟨#[]⟩, ⟨#[]⟩, he, rfl, rfl, hb⟩
  rw [if_neg h10]
  have ha := fun W => idat_any (s.extract (s.size - 8) s.size) W (by rw [ByteArray.size_extract]; omega) (by rw [ByteArray.size_extract]; omega)
  have hd := fun W => id_any (s.extract 0 (s.size - 8)) W (by rw [ByteArray.size_extract]; omega)
  have hxa : (s.extract (s.size - 8) s.size).data.toList.take 8 = s.data.toList.drop (s.size - 8) := by
    rw [ext_toList, List.take_of_length_le (by rw [List.length_drop]; omega)]
  have hxd : Nm.low 8 (Mx.narrow 64 (s.extract 0 (s.size - 8)).data.toList) = Pk.dg (s.data.toList.take (s.size - 8)) := by rw [ext_upto]; rfl
  rw [hxa] at ha
  rw [hxd] at hd
  obtain ⟨x0, x1, x2, x3, x4, x5, x6, x7, hX⟩ := eight (s.data.toList.drop (s.size - 8)) (by rw [List.length_drop]; omega)
  obtain ⟨y0, y1, y2, y3, y4, y5, y6, y7, hY⟩ := eight (Pk.dg (s.data.toList.take (s.size - 8))) (Pk.dg_length _)
  rw [hX] at ha ⊢
  rw [hY] at hd ⊢
  have hid := fun W => id_eq W [x0, x1, x2, x3, x4, x5, x6, x7] [y0, y1, y2, y3, y4, y5, y6, y7] rfl rfl
  by_cases hq : [y0, y1, y2, y3, y4, y5, y6, y7] ≠ [x0, x1, x2, x3, x4, x5, x6, x7]
  · rw [if_pos hq]
    have hb : ([x0, x1, x2, x3, x4, x5, x6, x7] == [y0, y1, y2, y3, y4, y5, y6, y7]) = false := beq_eq_false_iff_ne.2 (Ne.symm hq)
    rw [hb] at hid
    exact (unseal_sum x0 x1 x2 x3 x4 x5 x6 x7 y0 y1 y2 y3 y4 y5 y6 y7 s (s.size - 8) w (by omega) hs (by omega) (by omega) ha hd hid).mono fun e w' ⟨he, hb⟩ => ⟨⟨#[]⟩, ⟨#[]⟩, he, rfl, rfl, hb⟩
  · rw [if_neg hq]
    have hb : ([x0, x1, x2, x3, x4, x5, x6, x7] == [y0, y1, y2, y3, y4, y5, y6, y7]) = true := beq_iff_eq.2 (Classical.not_not.1 hq).symm
    rw [hb] at hid
    have hlen : Pk.lenL s.data.toList = (s[s.size - 10]'(by omega)).toNat + 256 * (s[s.size - 9]'(by omega)).toNat := by
      unfold Pk.lenL
      rw [hsz, get_at s _ (by omega), get_at s _ (by omega)]
    refine (unseal_of x0 x1 x2 x3 x4 x5 x6 x7 y0 y1 y2 y3 y4 y5 y6 y7 s (s.size - 10) (s.size - 9) (s.size - 8) w (by omega) hs (by omega) (by omega) (by omega) (by omega) (by omega) (by omega) ha hd hid (Pk.lenL s.data.toList) hlen.symm).mono fun e w' ⟨he, hb⟩ => ?_
    by_cases hlt : s.size - 10 < Pk.lenL s.data.toList
    · rw [if_pos hlt] at he ⊢
      exact ⟨⟨#[]⟩, ⟨#[]⟩, he, rfl, rfl, hb⟩
    · rw [if_neg hlt] at he ⊢
      refine ⟨_, _, he, ?_, ?_, hb⟩
      · rw [ext_upto, ext_upto, List.take_take, Nat.min_eq_left (by omega)]
      · rw [Lib.extract_data, ext_upto, List.take_of_length_le (by rw [List.length_drop, List.length_take]; omega)]
end Go.Proofs.Ytkhejelmjkpgfaa

namespace Go.Proofs.Ytkhejelmjkpgfaa
open Go.RowKit
set_option maxRecDepth 4000

theorem ents_re (body m : Nat) (l : List UInt8) (at_ : Nat) (out : List Pk.En) : Pk.ents body (m + 1) l at_ out =
    if (re l).2.2.2.2 ≠ 0 then ([], (re l).2.2.2.2) else if (re l).1 ∈ out.map Pk.En.id ∨ body < at_ + (re l).2.2.1 then ([], 4) else
    Pk.ents body m (re l).2.2.2.1 (at_ + (re l).2.2.1) (out ++ [⟨(re l).1, ((re l).2.1 : Nat), at_, (re l).2.2.1⟩]) := by
  by_cases h9 : l.length < 9
  · have hr : re l = (List.replicate 8 0, 0, 0, [], 3) := by unfold re; rw [if_pos h9]
    rw [hr, Pk.ents, if_pos h9]; rfl
  by_cases hk : ¬ ((l.headD 0).toNat = 1 ∨ (l.headD 0).toNat = 2 ∨ (l.headD 0).toNat = 3)
  · have hr : re l = (List.replicate 8 0, 0, 0, [], 5) := by unfold re; rw [if_neg h9, if_pos hk]
    rw [hr, Pk.ents, if_neg h9]
    dsimp only
    rw [if_pos hk]; rfl
  by_cases h1 : (Nm.getN (l.drop 9)).2.2 ≠ 0
  · have hn : Pr.num1 4097 (l.drop 9) = (0, [], (Nm.getN (l.drop 9)).2.2) := by unfold Pr.num1; rw [if_pos h1]
    have hr : re l = (List.replicate 8 0, 0, 0, [], (Nm.getN (l.drop 9)).2.2) := by unfold re; rw [if_neg h9, if_neg hk, hn]; dsimp only; rw [if_pos h1]
    rw [hr, Pk.ents, if_neg h9]
    dsimp only
    rw [if_neg hk, if_pos h1, if_pos h1]
  by_cases h2 : 4097 < (Nm.getN (l.drop 9)).1
  · have hn : Pr.num1 4097 (l.drop 9) = (0, [], 2) := by unfold Pr.num1; rw [if_neg h1, if_pos h2]
    have hr : re l = (List.replicate 8 0, 0, 0, [], 2) := by unfold re; rw [if_neg h9, if_neg hk, hn]; rfl
    rw [hr, Pk.ents, if_neg h9]
    dsimp only
    rw [if_neg hk, if_neg h1, if_pos h2]; rfl
  have hn : Pr.num1 4097 (l.drop 9) = ((Nm.getN (l.drop 9)).1, (l.drop 9).drop (Nm.getN (l.drop 9)).2.1, 0) := by unfold Pr.num1; rw [if_neg h1, if_neg h2]
  have hr : re l = ((l.drop 1).take 8, (l.headD 0).toNat, (Nm.getN (l.drop 9)).1, (l.drop 9).drop (Nm.getN (l.drop 9)).2.1, 0) := by unfold re; rw [if_neg h9, if_neg hk, hn]; rfl
  rw [hr, Pk.ents, if_neg h9]
  dsimp only
  rw [if_neg hk, if_neg h1, if_neg h2, if_neg (show ¬ (0 : Int) ≠ 0 from fun h => h rfl)]
  by_cases h3 : (l.drop 1).take 8 ∈ out.map Pk.En.id
  · rw [if_pos h3, if_pos (.inl h3)]
  rw [if_neg h3]
  by_cases h4 : body < at_ + (Nm.getN (l.drop 9)).1
  · rw [if_pos h4, if_pos (.inr h4)]
  rw [if_neg h4, if_neg (fun h => h.elim h3 h4), List.drop_drop]
/-- what List hands back -/
def LsOut (w w' : World) (v : Value) (r : List Pk.En) : Prop := ∃ es : List Ent, es.map Ent.p = r ∧ w'.ownsRow w.heap.size 38 11 v es.length (rowR enC es) ∧ Below w.heap.size w w'
theorem info_en : (Try.prog.info? 38).map (fun i => (i.zero, i.size, i.bytes)) = some (some (.agg #[.int .u8 0, .int .u8 0, .int .u8 0, .int .u8 0, .int .u8 0, .int .u8 0, .int .u8 0, .int .u8 0, .int .i64 0, .int .i64 0, .int .i64 0]), 11, 32) := by kernel_rfl
theorem zero_int (w : World) : (zeroValue 3).run Try.prog w = .ok (.int .i64 0) w := by kernel_rfl
theorem under_mapI : Try.prog.underlying 64 = some (.map 26 3) := by kernel_rfl
theorem re_le (l : List UInt8) : (re l).2.1 ≤ 3 ∧ (re l).2.2.1 ≤ 4097 ∧ (re l).2.2.2.1.length ≤ l.length := by
  unfold re
  split
  · simp
  split
  · simp
  split
  · simp
  · rename_i h1 h2 h3
    have hn := Pr.num1_le 4097 (l.drop 9)
    have hk := Classical.not_not.1 h2
    refine ⟨by show (l.headD 0).toNat ≤ 3; omega, hn.1, ?_⟩
    exact Nat.le_trans hn.2 (by rw [List.length_drop]; omega)
def mpE (es : List Ent) : List (List UInt8 × Value) := es.map fun e => (e.id, .int .i64 e.at_)
theorem mpE_keys (es : List Ent) : (mpE es).map (·.1) = (es.map Ent.p).map Pk.En.id := by simp [mpE, List.map_map, Function.comp_def, Ent.p]
theorem mpE_mem {es : List Ent} {x : List UInt8} (h : x ∈ (mpE es).map (·.1)) : ∃ v, (x, v) ∈ mpE es := by
  obtain ⟨p, hp, rfl⟩ := List.mem_map.1 h
  exact ⟨p.2, hp⟩
theorem ls_us (s : List UInt8) : Pk.ls s = if (us s).2.2 ≠ 0 then ([], (us s).2.2) else Pk.lst (us s).1.length (us s).2.1 := by
  unfold us Pk.ls
  by_cases h1 : s.length < 10
  · rw [if_pos h1, if_pos h1]; rfl
  rw [if_neg h1, if_neg h1]
  by_cases h2 : Pk.dg (s.take (s.length - 8)) ≠ s.drop (s.length - 8)
  · rw [if_pos h2, if_pos h2]; rfl
  rw [if_neg h2, if_neg h2]
  by_cases h3 : s.length - 10 < Pk.lenL s
  · rw [if_pos h3, if_pos h3]; rfl
  rw [if_neg h3, if_neg h3, if_neg (show ¬ (0 : Int) ≠ 0 from fun h => h rfl)]
  dsimp only
  rw [List.length_take, Nat.min_eq_left (by omega)]
theorem lst_num (body : Nat) (l : List UInt8) : Pk.lst body l = if (Pr.num1 40 l).2.2 ≠ 0 then ([], (Pr.num1 40 l).2.2) else Pk.ents body (Pr.num1 40 l).1 (Pr.num1 40 l).2.1 0 [] := by
  unfold Pk.lst Pr.num1
  dsimp only
  by_cases h1 : (Nm.getN l).2.2 ≠ 0
  · rw [if_pos h1, if_pos h1, if_pos h1]
  rw [if_neg h1, if_neg h1]
  by_cases h2 : 40 < (Nm.getN l).1
  · rw [if_pos h2, if_pos h2]; rfl
  rw [if_neg h2, if_neg h2, if_neg (show ¬ (0 : Int) ≠ 0 from fun h => h rfl)]
theorem us_le (s : List UInt8) : (us s).1.length ≤ s.length ∧ (us s).2.1.length ≤ s.length := by
  unfold us
  split
  · simp
  split
  · simp
  split
  · simp
  · refine ⟨by rw [List.length_take]; omega, by rw [List.length_drop, List.length_take]; omega⟩
theorem LsOut.none (w w' : World) (h : Below w.heap.size w w') : LsOut w w' (.slice none 0 0) [] := ⟨[], rfl, World.ownsRow_nil _ _ _ _, h⟩

set_option maxHeartbeats 8000000 in
theorem list_any (s : ByteArray) (w : World) (hs : s.size ≤ 140737488351232) :
    Calls Try.prog 13 #[.string s] w fun e w' => ∃ v, e = .returned (.tuple #[v, .int .i64 (Pk.ls s.data.toList).2]) ∧ LsOut w w' v (Pk.ls s.data.toList).1 := by
  obtain ⟨i0, hi, hz0, hz1, hz2⟩ := info_parts info_en
  have hus := us_any s w hs
  have hul := us_le s.data.toList
  rw [← Lib.size_eq] at hul
  rw [ls_us]
  by_cases hE : (us s.data.toList).2.2 ≠ 0
  · rw [if_pos hE]
    have hE2 : ((us s.data.toList).2.2 == 0) = false := beq_eq_false_iff_ne.2 hE
    generalize (us s.data.toList).2.2 = er at *
    clear hE
    go_enter Try.func13, Try.ntmps13
    go_wp2_with fail
    refine hus.mono ?_
    rintro e w1 ⟨b, l, rfl, hbd, hld, hb1⟩
    have HB1 : Hid (Below w.heap.size w w1) := hb1
    clear hus hb1 hbd hld
    go_wp2_with fail
    go_ret2
    exact ⟨_, rfl, LsOut.none _ _ HB1.out⟩
  rw [if_neg hE]
  rw [Classical.not_not.1 hE] at hus
  generalize (us s.data.toList).1 = BD at *
  generalize (us s.data.toList).2.1 = LD at *
  rw [lst_num]
  by_cases hN : (Pr.num1 40 LD).2.2 ≠ 0
  · rw [if_pos hN]
    have hn := fun (t : ByteArray) (ht : t.data.toList = LD) (W : World) => prnum_any t 40 W (by rw [Lib.size_eq, ht]; omega) (by omega) (by omega)
    have HN : Hid (∀ (t : ByteArray), t.data.toList = LD → ∀ W, Calls Try.prog 34 #[.string t, .int .u64 40] W fun e w' => ∃ s' : ByteArray, e = .returned (.tuple #[.int .i64 (Pr.num1 40 LD).1, .string s', .int .i64 (Pr.num1 40 LD).2.2]) ∧ s'.data.toList = (Pr.num1 40 LD).2.1 ∧ Below W.heap.size W w') := fun t ht W => by
      have := hn t ht W
      rwa [ht, show (40 : Int).toNat = 40 from rfl] at this
    have hN2 : ((Pr.num1 40 LD).2.2 == 0) = false := beq_eq_false_iff_ne.2 hN
    generalize (Pr.num1 40 LD).2.2 = er at *
    generalize (Pr.num1 40 LD).1 = nm at *
    clear hN hE hn
    go_enter Try.func13, Try.ntmps13
    go_wp2_with fail
    refine hus.mono ?_
    rintro e w1 ⟨b, l, rfl, hbd, hld, hb1⟩
    have HB1 : Hid (Below w.heap.size w w1) := hb1
    have hnl := HN.out l hld
    clear hus hb1 hbd hld
    go_wp2_with fail
    refine (hnl _).mono ?_
    rintro e w2 ⟨s', rfl, hsd, hb2⟩
    have HB2 : Hid (Below w.heap.size w w2) := HB1.out.trans (hb2.mono HB1.out.size)
    clear hnl hb2 hsd
    go_wp2_with fail
    go_ret2
    exact ⟨_, rfl, LsOut.none _ _ HB2.out⟩
  rw [if_neg hN]
  have hn40 := (Pr.num1_le 40 LD).1
  have hnl0 := (Pr.num1_le 40 LD).2
  have HN : Hid (∀ (t : ByteArray), t.data.toList = LD → ∀ W, Calls Try.prog 34 #[.string t, .int .u64 40] W fun e w' => ∃ s' : ByteArray, e = .returned (.tuple #[.int .i64 (Pr.num1 40 LD).1, .string s', .int .i64 0]) ∧ s'.data.toList = (Pr.num1 40 LD).2.1 ∧ Below W.heap.size W w') := fun t ht W => by
    have := prnum_any t 40 W (by rw [Lib.size_eq, ht]; omega) (by omega) (by omega)
    rwa [ht, show (40 : Int).toNat = 40 from rfl, Classical.not_not.1 hN] at this
  obtain ⟨RR, hRR⟩ : ∃ RR, Pk.ents BD.length (Pr.num1 40 LD).1 (Pr.num1 40 LD).2.1 0 [] = RR := ⟨_, rfl⟩
  have HRR : Hid (RR = Pk.ents BD.length (Pr.num1 40 LD).1 (Pr.num1 40 LD).2.1 0 []) := hRR.symm
  rw [hRR]
  generalize (Pr.num1 40 LD).1 = NM at *
  generalize (Pr.num1 40 LD).2.1 = L0 at *
  clear hN hE hRR
  go_enter Try.func13, Try.ntmps13
  go_wp2_with fail
  refine hus.mono ?_
  rintro e w1 ⟨b, l, rfl, hbd, hld, hb1⟩
  have HB1 : Hid (Below w.heap.size w w1) := hb1
  have hnl := HN.out l hld
  have hbz : b.size = BD.length := by rw [Lib.size_eq, hbd]
  have HBZ : Hid (b.size = BD.length) := hbz
  rw [← hbz] at HRR
  have hbs : b.size ≤ 140737488351232 := by omega
  clear hus hb1 hbd hld hbz
  go_wp2_with fail
  refine (hnl _).mono ?_
  rintro e w2 ⟨l2, rfl, hl2, hb2⟩
  have HB2 : Hid (Below w.heap.size w w2) := HB1.out.trans (hb2.mono HB1.out.size)
  have HL2 : Hid (l2.data.toList = L0) := hl2
  have hl2z : l2.size ≤ 140737488351232 := by rw [Lib.size_eq, hl2]; omega
  have hmk := run_makeMap (P := Try.prog) 64 w2
  have HM0 : Hid (Mp (w2.alloc (.map #[] 0)) w2.heap.size 0 (mpE [])) := Mp.new w2
  have hs2 := HB2.out.size
  rw [← hl2] at HRR
  clear hnl hb2 hl2
  go_wp2_with fail
  go_loopw [5, 8, 10, 36] (fun vl ve va i wr => ∃ (k : Nat) (L : ByteArray) (at_ : Nat) (out : List Ent), k ≤ NM ∧ i = .int .i64 k ∧ vl = .string L ∧ va = .int .i64 at_ ∧ L.size ≤ 140737488351232 ∧ at_ ≤ b.size ∧ Hid (out.length = k) ∧ Hid (RR = Pk.ents b.size (NM - k) L.data.toList at_ (out.map Ent.p)) ∧
      Hid (Mp wr w2.heap.size k (mpE out)) ∧ Hid (wr.ownsRow (w2.heap.size + 1) 38 11 ve out.length (rowR enC out)) ∧ Hid (Below w.heap.size w wr)) (fun _ _ _ i _ => NM - (intOf i).toNat)
  case atStart => exact ⟨0, l2, 0, [], by omega, rfl, rfl, rfl, hl2z, by omega, rfl, HRR, HM0, World.ownsRow_nil _ _ _ _, HB2.out.alloc hs2 _⟩
  case round =>
    obtain ⟨k, L, at_, out, hk, rfl, rfl, rfl, hLz, hat, hol, hR, hmp, hown, hbel⟩ := hrel
    clear HM0 hmk HRR
    by_cases hlt : k < NM
    · have hrd := fun W => re_any L W hLz
      have HT := ents_re b.size (NM - k - 1) L.data.toList at_ (out.map Ent.p)
      rw [show NM - k - 1 + 1 = NM - k from by omega, ← hR.out] at HT
      obtain ⟨b0, b1, b2, b3, b4, b5, b6, b7, hx⟩ := eight _ (re_length L.data.toList)
      unfold reC at hrd
      have hrl := re_le L.data.toList
      rw [← Lib.size_eq] at hrl
      rw [hx] at hrd HT
      obtain ⟨kd, hkd⟩ : ∃ kd, (re L.data.toList).2.1 = kd := ⟨_, rfl⟩
      obtain ⟨n, hn⟩ : ∃ n, (re L.data.toList).2.2.1 = n := ⟨_, rfl⟩
      obtain ⟨LF, hLF⟩ : ∃ LF, (re L.data.toList).2.2.2.1 = LF := ⟨_, rfl⟩
      obtain ⟨er, her⟩ : ∃ er, (re L.data.toList).2.2.2.2 = er := ⟨_, rfl⟩
      rw [hkd, hn] at hrd HT hrl
      rw [hLF] at hrd HT hrl
      rw [her] at hrd HT
      have hrd' : ∀ W, Calls Try.prog 35 #[.string L] W fun e w' => ∃ s' : ByteArray, e = .returned (.tuple #[.agg #[.int .u8 (b0.toNat : Int), .int .u8 (b1.toNat : Int), .int .u8 (b2.toNat : Int), .int .u8 (b3.toNat : Int), .int .u8 (b4.toNat : Int), .int .u8 (b5.toNat : Int), .int .u8 (b6.toNat : Int), .int .u8 (b7.toNat : Int), .int .i64 (kd : Int), .int .i64 0, .int .i64 (n : Int)], .string s', .int .i64 er]) ∧ s'.data.toList = LF ∧ Below W.heap.size W w' := hrd
      have hws := hbel.out.size
      have hms := hmp.out.lt
      clear hrd hx hkd hn hLF her
      by_cases hE : er ≠ 0
      · rw [if_pos hE] at HT
        have HRT : Hid (RR = ([], er)) := HT
        have hE2 : (er == 0) = false := beq_eq_false_iff_ne.2 hE
        clear HT hE
        go_wp2_with fail
        refine (hrd' _).mono ?_
        rintro e w3 ⟨s', rfl, _, hb3⟩
        have HB3 : Hid (Below w.heap.size w w3) := hbel.out.trans (hb3.mono hws)
        have hs3 := HB3.out.size
        clear hb3 hrd' hmp hown hbel
        go_wp2_with fail
        go_ret2
        exact ⟨_, by rw [HRT.out]; rfl, by rw [HRT.out]; exact LsOut.none _ _ (HB3.out.alloc hs3 _)⟩
      rw [if_neg hE] at HT
      obtain rfl : er = 0 := Classical.not_not.1 hE
      clear hE
      by_cases hin : [b0, b1, b2, b3, b4, b5, b6, b7] ∈ (out.map Ent.p).map Pk.En.id
      · rw [if_pos (.inl hin)] at HT
        have HRT : Hid (RR = ([], 4)) := HT
        obtain ⟨vv, hvv⟩ := mpE_mem (es := out) (x := [b0, b1, b2, b3, b4, b5, b6, b7]) (by rw [mpE_keys]; exact hin)
        clear HT hin
        go_wp2_with fail
        refine (hrd' _).mono ?_
        rintro e w3 ⟨s', rfl, _, hb3⟩
        have HB3 : Hid (Below w.heap.size w w3) := hbel.out.trans (hb3.mono hws)
        have hs3 := HB3.out.size
        have hlook : (Instr.lookup 64 (.map (some w2.heap.size)) (.agg #[.int .u8 (b0.toNat : Int), .int .u8 (b1.toNat : Int), .int .u8 (b2.toNat : Int), .int .u8 (b3.toNat : Int), .int .u8 (b4.toNat : Int), .int .u8 (b5.toNat : Int), .int .u8 (b6.toNat : Int), .int .u8 (b7.toNat : Int)]) true).run Try.prog (w3.alloc (.cells #[.int .u8 (b0.toNat : Int), .int .u8 (b1.toNat : Int), .int .u8 (b2.toNat : Int), .int .u8 (b3.toNat : Int), .int .u8 (b4.toNat : Int), .int .u8 (b5.toNat : Int), .int .u8 (b6.toNat : Int), .int .u8 (b7.toNat : Int), .int .i64 (kd : Int), .int .i64 0, .int .i64 (n : Int)] 38)) = .ok (.tuple #[vv, .bool true]) (w3.alloc (.cells #[.int .u8 (b0.toNat : Int), .int .u8 (b1.toNat : Int), .int .u8 (b2.toNat : Int), .int .u8 (b3.toNat : Int), .int .u8 (b4.toNat : Int), .int .u8 (b5.toNat : Int), .int .u8 (b6.toNat : Int), .int .u8 (b7.toNat : Int), .int .i64 (kd : Int), .int .i64 0, .int .i64 (n : Int)] 38)) :=
          ((hmp.out.below hb3).below ((Below.refl _ w3).alloc (Nat.le_refl _) _)).hit under_mapI (zero_int _) hvv
        clear hb3 hrd' hmp hown hbel hvv
        go_wp2_with fail
        go_ret2
        exact ⟨_, by rw [HRT.out]; rfl, by rw [HRT.out]; exact LsOut.none _ _ (HB3.out.alloc hs3 _)⟩
      have HNI : Hid ([b0, b1, b2, b3, b4, b5, b6, b7] ∉ (mpE out).map (·.1)) := by show _ ∉ _; rw [mpE_keys]; exact hin
      by_cases hbig : b.size < at_ + n
      · rw [if_pos (.inr hbig)] at HT
        have HRT : Hid (RR = ([], 4)) := HT
        have hcmp : (b.size : Int) - (at_ : Int) < (n : Int) := by omega
        clear HT hin hbig
        go_wp2_with fail
        refine (hrd' _).mono ?_
        rintro e w3 ⟨s', rfl, _, hb3⟩
        have HB3 : Hid (Below w.heap.size w w3) := hbel.out.trans (hb3.mono hws)
        have hs3 := HB3.out.size
        have hlook : (Instr.lookup 64 (.map (some w2.heap.size)) (.agg #[.int .u8 (b0.toNat : Int), .int .u8 (b1.toNat : Int), .int .u8 (b2.toNat : Int), .int .u8 (b3.toNat : Int), .int .u8 (b4.toNat : Int), .int .u8 (b5.toNat : Int), .int .u8 (b6.toNat : Int), .int .u8 (b7.toNat : Int)]) true).run Try.prog (w3.alloc (.cells #[.int .u8 (b0.toNat : Int), .int .u8 (b1.toNat : Int), .int .u8 (b2.toNat : Int), .int .u8 (b3.toNat : Int), .int .u8 (b4.toNat : Int), .int .u8 (b5.toNat : Int), .int .u8 (b6.toNat : Int), .int .u8 (b7.toNat : Int), .int .i64 (kd : Int), .int .i64 0, .int .i64 (n : Int)] 38)) = .ok (.tuple #[.int .i64 0, .bool false]) (w3.alloc (.cells #[.int .u8 (b0.toNat : Int), .int .u8 (b1.toNat : Int), .int .u8 (b2.toNat : Int), .int .u8 (b3.toNat : Int), .int .u8 (b4.toNat : Int), .int .u8 (b5.toNat : Int), .int .u8 (b6.toNat : Int), .int .u8 (b7.toNat : Int), .int .i64 (kd : Int), .int .i64 0, .int .i64 (n : Int)] 38)) :=
          ((hmp.out.below hb3).below ((Below.refl _ w3).alloc (Nat.le_refl _) _)).miss under_mapI (zero_int _) (x := [b0, b1, b2, b3, b4, b5, b6, b7]) rfl HNI.out
        clear hb3 hrd' hmp hown hbel
        go_wp2_with fail
        go_ret2
        exact ⟨_, by rw [HRT.out]; rfl, by rw [HRT.out]; exact LsOut.none _ _ (HB3.out.alloc hs3 _)⟩
      rw [if_neg (fun h => h.elim hin hbig)] at HT
      have HRT : Hid (RR = Pk.ents b.size (NM - k - 1) LF (at_ + n) (out.map Ent.p ++ [⟨[b0, b1, b2, b3, b4, b5, b6, b7], (kd : Nat), at_, n⟩])) := HT
      have hcmp : (n : Int) ≤ (b.size : Int) - (at_ : Int) := by omega
      clear HT hin hbig
      go_wp2_with fail
      refine (hrd' _).mono ?_
      rintro e w3 ⟨s', rfl, hsd, hb3⟩
      have HB3 : Hid (Below w.heap.size w w3) := hbel.out.trans (hb3.mono hws)
      have hs3 := HB3.out.size
      have hw3 : w2.heap.size < w3.heap.size := Nat.lt_of_lt_of_le hms hb3.size
      have hm3 := hmp.out.below hb3
      have HO3 : Hid (w3.ownsRow (w2.heap.size + 1) 38 11 u8 out.length (rowR enC out)) := own_below hown.out hb3
      have HNB : Hid (some w3.heap.size ≠ u8.ownBlock) := fun e => by have := (HO3.out.lt _ e.symm).2; omega
      have hlook : (Instr.lookup 64 (.map (some w2.heap.size)) (.agg #[.int .u8 (b0.toNat : Int), .int .u8 (b1.toNat : Int), .int .u8 (b2.toNat : Int), .int .u8 (b3.toNat : Int), .int .u8 (b4.toNat : Int), .int .u8 (b5.toNat : Int), .int .u8 (b6.toNat : Int), .int .u8 (b7.toNat : Int)]) true).run Try.prog (w3.alloc (.cells #[.int .u8 (b0.toNat : Int), .int .u8 (b1.toNat : Int), .int .u8 (b2.toNat : Int), .int .u8 (b3.toNat : Int), .int .u8 (b4.toNat : Int), .int .u8 (b5.toNat : Int), .int .u8 (b6.toNat : Int), .int .u8 (b7.toNat : Int), .int .i64 (kd : Int), .int .i64 0, .int .i64 (n : Int)] 38)) = .ok (.tuple #[.int .i64 0, .bool false]) (w3.alloc (.cells #[.int .u8 (b0.toNat : Int), .int .u8 (b1.toNat : Int), .int .u8 (b2.toNat : Int), .int .u8 (b3.toNat : Int), .int .u8 (b4.toNat : Int), .int .u8 (b5.toNat : Int), .int .u8 (b6.toNat : Int), .int .u8 (b7.toNat : Int), .int .i64 (kd : Int), .int .i64 0, .int .i64 (n : Int)] 38)) :=
        (hm3.below ((Below.refl _ w3).alloc (Nat.le_refl _) _)).miss under_mapI (zero_int _) (x := [b0, b1, b2, b3, b4, b5, b6, b7]) rfl HNI.out
      clear hb3 hrd' hmp hown hbel
      obtain ⟨w5, hput, hm5, hg5⟩ := (hm3.below ((Below.refl _ w3).alloc (Nat.le_refl _) (.cells #[.int .u8 (b0.toNat : Int), .int .u8 (b1.toNat : Int), .int .u8 (b2.toNat : Int), .int .u8 (b3.toNat : Int), .int .u8 (b4.toNat : Int), .int .u8 (b5.toNat : Int), .int .u8 (b6.toNat : Int), .int .u8 (b7.toNat : Int), .int .i64 (kd : Int), .int .i64 (at_ : Int), .int .i64 (n : Int)] 38))).put under_mapI (x := [b0, b1, b2, b3, b4, b5, b6, b7]) rfl HNI.out (by omega) (.int .i64 (at_ : Int))
      have hput' : (Instr.mapUpdate 64 (.map (some w2.heap.size)) (.agg #[.int .u8 (b0.toNat : Int), .int .u8 (b1.toNat : Int), .int .u8 (b2.toNat : Int), .int .u8 (b3.toNat : Int), .int .u8 (b4.toNat : Int), .int .u8 (b5.toNat : Int), .int .u8 (b6.toNat : Int), .int .u8 (b7.toNat : Int)]) (.int .i64 (at_ : Int))).run Try.prog (w3.alloc (.cells #[.int .u8 (b0.toNat : Int), .int .u8 (b1.toNat : Int), .int .u8 (b2.toNat : Int), .int .u8 (b3.toNat : Int), .int .u8 (b4.toNat : Int), .int .u8 (b5.toNat : Int), .int .u8 (b6.toNat : Int), .int .u8 (b7.toNat : Int), .int .i64 (kd : Int), .int .i64 (at_ : Int), .int .i64 (n : Int)] 38)) = .ok () w5 := hput
      obtain ⟨ent, hent⟩ : ∃ ent : Ent, ent = ⟨[b0, b1, b2, b3, b4, b5, b6, b7], rfl, (kd : Int), (at_ : Int), (n : Int)⟩ := ⟨_, rfl⟩
      have henC : enC ent = [.int .u8 (b0.toNat : Int), .int .u8 (b1.toNat : Int), .int .u8 (b2.toNat : Int), .int .u8 (b3.toNat : Int), .int .u8 (b4.toNat : Int), .int .u8 (b5.toNat : Int), .int .u8 (b6.toNat : Int), .int .u8 (b7.toNat : Int), .int .i64 (kd : Int), .int .i64 (at_ : Int), .int .i64 (n : Int)] := by rw [hent]; rfl
      have HEP : Hid (ent.p = ⟨[b0, b1, b2, b3, b4, b5, b6, b7], (kd : Nat), at_, n⟩) := by show _ = _; rw [hent]; rfl
      have HM5 : Hid (Mp w5 w2.heap.size (k + 1) (mpE (out ++ [ent]))) := by
        show Mp _ _ _ _
        rw [mpE, List.map_append, hent]
        exact hm5
      have hcN : ∀ j v, (enC ent)[j]? = some v → (w3.alloc (.cells #[.int .u8 (b0.toNat : Int), .int .u8 (b1.toNat : Int), .int .u8 (b2.toNat : Int), .int .u8 (b3.toNat : Int), .int .u8 (b4.toNat : Int), .int .u8 (b5.toNat : Int), .int .u8 (b6.toNat : Int), .int .u8 (b7.toNat : Int), .int .i64 (kd : Int), .int .i64 (at_ : Int), .int .i64 (n : Int)] 38)).cell? ⟨w3.heap.size, j, none⟩ = some v := fun j v hv => by
        rw [henC] at hv
        exact (Cz.new w3 #[.int .u8 (b0.toNat : Int), .int .u8 (b1.toNat : Int), .int .u8 (b2.toNat : Int), .int .u8 (b3.toNat : Int), .int .u8 (b4.toNat : Int), .int .u8 (b5.toNat : Int), .int .u8 (b6.toNat : Int), .int .u8 (b7.toNat : Int), .int .i64 (kd : Int), .int .i64 (at_ : Int), .int .i64 (n : Int)] 38).at_ j v hv
      have hc5 : ∀ j v, ([.int .u8 (b0.toNat : Int), .int .u8 (b1.toNat : Int), .int .u8 (b2.toNat : Int), .int .u8 (b3.toNat : Int), .int .u8 (b4.toNat : Int), .int .u8 (b5.toNat : Int), .int .u8 (b6.toNat : Int), .int .u8 (b7.toNat : Int), .int .i64 (kd : Int), .int .i64 (at_ : Int), .int .i64 (n : Int)] : List Value)[j]? = some v → w5.cell? ⟨w3.heap.size, j, none⟩ = some v := fun j v hv => hg5.cell (hcN j v (by rw [henC]; exact hv)) (fun e => by have h : w3.heap.size = w2.heap.size := Option.some.inj e; omega)
      have y0 := (hc5 0 _ rfl)
      have y1 := (hc5 1 _ rfl)
      have y2 := (hc5 2 _ rfl)
      have y3 := (hc5 3 _ rfl)
      have y4 := (hc5 4 _ rfl)
      have y5 := (hc5 5 _ rfl)
      have y6 := (hc5 6 _ rfl)
      have y7 := (hc5 7 _ rfl)
      have y8 := (hc5 8 _ rfl)
      have y9 := (hc5 9 _ rfl)
      have y10 := (hc5 10 _ rfl)
      have hneo : u8.ownBlock ≠ some w2.heap.size := fun e => by have := (HO3.out.lt _ e).1; omega
      have hown5 : w5.ownsRow (w2.heap.size + 1) 38 11 u8 out.length (rowR enC out) :=
        own_kept (HO3.out.alloc _) (Kept.grown (p := fun q => q ≠ w2.heap.size) (Kept.refl _ _) hg5 (fun q hq hp => hp (Option.some.inj hq).symm)) (fun q hq e => hneo (e ▸ hq))
      have HB5 : Hid (Below w.heap.size w w5) := (HB3.out.alloc hs3 _).grown hg5 (by simp; omega) (fun q hq => by rw [← Option.some.inj hq]; exact hs2)
      have hs5 : w3.heap.size + 1 ≤ w5.heap.size := by have := hg5.size; simp at this; omega
      have hol5 : out.length ≤ 40 := by rw [hol.out]; omega
      have HEC : Hid (enC ent = [.int .u8 (b0.toNat : Int), .int .u8 (b1.toNat : Int), .int .u8 (b2.toNat : Int), .int .u8 (b3.toNat : Int), .int .u8 (b4.toNat : Int), .int .u8 (b5.toNat : Int), .int .u8 (b6.toNat : Int), .int .u8 (b7.toNat : Int), .int .i64 (kd : Int), .int .i64 (at_ : Int), .int .i64 (n : Int)]) := henC
      have i9 : (at_ : Int) + (n : Int) = ((at_ + n : Nat) : Int) := by omega
      have HI9 : Hid ((at_ : Int) + (n : Int) = ((at_ + n : Nat) : Int)) := i9
      clear hput hm3 hm5 hg5 hent henC hcN hneo HO3 hc5 i9
      go_wp2_with (at_builtin; refine wpList_append_own _ rfl (.tmp 70) (.tmp 72) 33 rfl (w2.heap.size + 1) 38 i0 (.agg #[.int .u8 0, .int .u8 0, .int .u8 0, .int .u8 0, .int .u8 0, .int .u8 0, .int .u8 0, .int .u8 0, .int .i64 0, .int .i64 0, .int .i64 0]) 11 32 Try.underlying33 hi hz0 hz1 hz2 rfl (by decide) _ _ _ rfl (hown5.alloc _) ⟨w5.heap.size, 0, none⟩ 1 1 [.int .u8 (b0.toNat : Int), .int .u8 (b1.toNat : Int), .int .u8 (b2.toNat : Int), .int .u8 (b3.toNat : Int), .int .u8 (b4.toNat : Int), .int .u8 (b5.toNat : Int), .int .u8 (b6.toNat : Int), .int .u8 (b7.toNat : Int), .int .i64 (kd : Int), .int .i64 (at_ : Int), .int .i64 (n : Int)] rfl rfl ?c1 ?c2 ?c3 ?c4 ?c5 ?_)
      case c1 => intro j u hj; rw [show ((⟨w5.heap.size, 0, none⟩ : Addr).add j) = ⟨w5.heap.size, j, none⟩ from by unfold Addr.add; split <;> simp_all]; exact (Cz.new w5 #[.int .u8 (b0.toNat : Int), .int .u8 (b1.toNat : Int), .int .u8 (b2.toNat : Int), .int .u8 (b3.toNat : Int), .int .u8 (b4.toNat : Int), .int .u8 (b5.toNat : Int), .int .u8 (b6.toNat : Int), .int .u8 (b7.toNat : Int), .int .i64 (kd : Int), .int .i64 (at_ : Int), .int .i64 (n : Int)] 38).at_ j u hj
      case c2 => intro u hu; rw [← HEC.out] at hu; exact enC_one ent u hu
      case c3 => unfold maxLen; omega
      case c4 => omega
      case c5 => simp; omega
      intro v' w6 hown6 hgrow _
      have hne2 : u8.ownBlock ≠ some w2.heap.size := fun e => by have := (hown5.lt _ e).1; omega
      have hne3 : some w3.heap.size ≠ u8.ownBlock := HNB.out
      have HM6 : Hid (Mp w6 w2.heap.size (k + 1) (mpE (out ++ [ent]))) := HM5.out.kept (Kept.grown (p := fun q => u8.ownBlock ≠ some q) ((Kept.refl _ w5).alloc _) hgrow (fun q hq hp => hp hq)) hne2
      have HB6 : Hid (Below w.heap.size w w6) := (HB5.out.alloc (by omega) _).grown hgrow (by simp; omega) (fun q hq => by have := (hown5.lt q hq).1; omega)
      have HO6 : Hid (w6.ownsRow (w2.heap.size + 1) 38 11 v' (out ++ [ent]).length (rowR enC (out ++ [ent]))) := by
        refine own_one_more ?_
        rw [HEC.out]
        exact hown6
      have q10 : w6.cell? ⟨w3.heap.size, 10, none⟩ = some (.int .i64 (n : Int)) := hgrow.cell ((((Below.refl _ w5).alloc (Nat.le_refl _) _).cell (p := ⟨w3.heap.size, 10, none⟩) (by show w3.heap.size < _; omega)).trans y10) hne3
      have HSD : Hid (s'.data.toList = LF) := hsd
      have hsz' : s'.size ≤ 140737488351232 := by rw [Lib.size_eq, hsd]; omega
      clear hown6 hgrow hne2 hown5 HM5 HB5 hsd y0 y1 y2 y3 y4 y5 y6 y7 y8 y9 y10 hlook hput'
      go_wp2_with fail
      go_roundw
      case rel =>
        refine ⟨k + 1, s', at_ + n, out ++ [ent], by omega, by go_num, rfl, int_eq HI9.out, hsz', by omega, ?_, ?_, HM6, HO6, HB6⟩
        · show _ = _
          rw [List.length_append, hol.out]; rfl
        · show _ = _
          rw [HRT.out, HSD.out, List.map_append, List.map_singleton, HEP.out, show NM - k - 1 = NM - (k + 1) from by omega]
      case measure => simp only [intOf]; omega
    · obtain rfl : k = NM := by omega
      rw [Nat.sub_self] at hR
      clear hmp
      by_cases hL : L.size = 0
      · have hLn : L.data.toList = [] := List.length_eq_zero_iff.1 (by rw [← Lib.size_eq]; exact hL)
        by_cases hA : at_ < b.size
        · have HRT : Hid (RR = ([], 4)) := by show _ = _; rw [hR.out, Pk.ents, if_pos (.inr hA)]
          have hcmp : (at_ : Int) < (b.size : Int) := by omega
          have hlz : ¬ (0 : Int) < (L.size : Int) := by omega
          clear hR hLn hA hown
          go_wp2_with fail
          go_ret2
          exact ⟨_, by rw [HRT.out]; rfl, by rw [HRT.out]; exact LsOut.none _ _ hbel.out⟩
        · have HRT : Hid (RR = (out.map Ent.p, 0)) := by show _ = _; rw [hR.out, Pk.ents, if_neg (fun h => h.elim (fun h => h hLn) hA)]
          have hcmp : (b.size : Int) ≤ (at_ : Int) := by omega
          have hlz : ¬ (0 : Int) < (L.size : Int) := by omega
          clear hR hLn hA
          go_wp2_with fail
          go_ret2
          exact ⟨_, by rw [HRT.out]; rfl, by rw [HRT.out]; exact ⟨out, rfl, own_lower hown.out (by omega), hbel.out⟩⟩
      · have HRT : Hid (RR = ([], 4)) := by show _ = _; rw [hR.out, Pk.ents, if_pos (.inl (fun e => hL (by rw [Lib.size_eq, e]; rfl)))]
        have hlz : 0 < L.size := by omega
        clear hR hL hown
        go_wp2_with fail
        all_goals go_ret2
        all_goals exact ⟨_, by rw [HRT.out]; rfl, by rw [HRT.out]; exact LsOut.none _ _ hbel.out⟩
end Go.Proofs.Ytkhejelmjkpgfaa
