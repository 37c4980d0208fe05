/-
  What ends and Pieces of package lumref answer.
-/
import Derived.Test.YtdalpicpkandcaaCkCheck
import Derived.Test.YtdalpicpkandcaaRefOf
import Derived.Test.YtdalpicpkandcaaChunkMath2
import Derived.Test.YtdalpicpkandcaaQuietSince
import Derived.Deep.Cut
import Derived.Deep.RegionWith
namespace Go.Proofs.Ytdalpicpkandcaa
open Go.RowKit

set_option maxHeartbeats 1000000 in
theorem ends_any (mn mx bt : Nat) (hb1 : 1 ≤ bt) (hb2 : bt ≤ 12) (p : ByteArray) (w : World) (hp : p.size ≤ 4096) :
    Calls Try.prog 27 #[cutV mn mx bt, .string p] w fun e w' => e = .returned (.bool (Ck.ends mn mx bt Rl.ofL p.data.toList)) ∧ Below w.heap.size w w' := by
  have hO := fun V => rof_any p V (by omega)
  generalize hS : Rl.ofL p.data.toList = S at hO
  obtain ⟨M, hM⟩ : ∃ M, M = 2 ^ bt := ⟨_, rfl⟩
  have hM0 : 0 < M := by rw [hM]; exact Nat.pow_pos (by omega)
  have hM1 : M ≤ 4096 := by rw [hM]; exact Nat.pow_le_pow_right (n := 2) (j := 12) (by omega) hb2
  have hpw : (2 : Int) ^ bt % 4294967296 = (M : Int) := by
    rw [show (2 : Int) ^ bt = ((2 ^ bt : Nat) : Int) from by simp, ← hM]
    omega
  have HM : Hid (M = 2 ^ bt) := hM
  clear hM
  unfold cutV
  go_enter Try.func27, Try.ntmps27
  go_upto_region 1 with fail
  obtain ⟨W4, hW4⟩ : ∃ W4, W4 = w.alloc (Obj.cells #[Value.int IntKind.i64 mn, Value.int IntKind.i64 mx, Value.int IntKind.i64 bt] 23) := ⟨_, rfl⟩
  have hB : Below w.heap.size w W4 := by rw [hW4]; exact (Below.refl _ w).alloc (Nat.le_refl _) _
  have hlt : w.heap.size < W4.heap.size := by rw [hW4]; simp
  have c0 : ∀ X : Since W4.heap.size W4, X.val.cell? ⟨w.heap.size, 0, none⟩ = some (.int .i64 (mn : Int)) := fun X => (X.property.cell (p := ⟨w.heap.size, 0, none⟩) hlt).trans (by rw [hW4]; simp)
  have c1 : ∀ X : Since W4.heap.size W4, X.val.cell? ⟨w.heap.size, 1, none⟩ = some (.int .i64 (mx : Int)) := fun X => (X.property.cell (p := ⟨w.heap.size, 1, none⟩) hlt).trans (by rw [hW4]; simp)
  have c2 : ∀ X : Since W4.heap.size W4, X.val.cell? ⟨w.heap.size, 2, none⟩ = some (.int .i64 (bt : Int)) := fun X => (X.property.cell (p := ⟨w.heap.size, 2, none⟩) hlt).trans (by rw [hW4]; simp)
  have hne : Nonempty (Since W4.heap.size W4) := ⟨⟨W4, Below.refl _ _⟩⟩
  rw [← hW4]
  clear hW4
  by_cases h1 : p.size = mx
  · have HE : Hid (Ck.ends mn mx bt Rl.ofL p.data.toList = true) := by show _ = _; simp [Ck.ends, h1]
    have q1 : ((p.size : Int) == (mx : Int)) = true := by rw [beq_iff_eq]; omega
    clear h1
    refine wp_region_since (B := W4.heap.size) (W0 := W4) (by kernel_rfl) (by kernel_rfl) (Below.refl _ _) ?_
    repeat (go_big_quiet_step (fail))
    refine wpQuiet_nil ?_
    rintro w7 ⟨U, rfl⟩
    have hU := U.property
    go_wp2_with fail
    go_ret
    exact ⟨by rw [HE.out]; rfl, hB.trans (hU.mono hB.size)⟩
  · have q1 : ((p.size : Int) == (mx : Int)) = false := by rw [beq_eq_false_iff_ne]; omega
    by_cases h2 : mn ≤ p.size
    · have q2 : decide ((mn : Int) ≤ (p.size : Int)) = true := by rw [decide_eq_true_eq]; omega
      have q3 : decide (mn ≤ p.size) = true := by rw [decide_eq_true_eq]; omega
      refine wp_region_since (B := W4.heap.size) (W0 := W4) (by kernel_rfl) (by kernel_rfl) (Below.refl _ _) ?_
      repeat (go_big_quiet_step (fail))
      go_big_quiet_step (exact quiet_since _ (hO _))
      repeat (go_big_quiet_step (fail))
      have HE : Hid (((S : Int) % (M : Int) == 0) = Ck.ends mn mx bt Rl.ofL p.data.toList) := by
        show _ = _
        rw [Ck.ends, ← Lib.size_eq, hS, ← HM.out, q3, beq_eq_false_iff_ne.2 h1, Bool.false_or, Bool.true_and, ← Int.natCast_emod]
        by_cases h : S % M = 0
        · rw [h]; rfl
        · rw [beq_eq_false_iff_ne.2 h, beq_eq_false_iff_ne]; omega
      generalize ((S : Int) % (M : Int) == 0) = b at HE ⊢
      refine wpQuiet_nil ?_
      rintro w7 ⟨U, rfl⟩
      have hU := U.property
      go_wp2_with fail
      go_ret
      exact ⟨by rw [← HE.out]; rfl, hB.trans (hU.mono hB.size)⟩
    · have HE : Hid (Ck.ends mn mx bt Rl.ofL p.data.toList = false) := by show _ = _; simp [Ck.ends, h1, h2]
      have q2 : decide ((mn : Int) ≤ (p.size : Int)) = false := by rw [decide_eq_false_iff_not]; omega
      have q3 : decide (mn ≤ p.size) = false := by rw [decide_eq_false_iff_not]; omega
      refine wp_region_since (B := W4.heap.size) (W0 := W4) (by kernel_rfl) (by kernel_rfl) (Below.refl _ _) ?_
      repeat (go_big_quiet_step (fail))
      refine wpQuiet_nil ?_
      rintro w7 ⟨U, rfl⟩
      have hU := U.property
      go_wp2_with fail
      go_ret
      exact ⟨by rw [HE.out]; rfl, hB.trans (hU.mono hB.size)⟩
/-- a piece, as it is told -/
def Sv (p : Ck.Bs) : Value := .string ⟨p.toArray⟩
theorem info_str : (Try.prog.info? 9).map (fun i => (i.zero, i.size, i.bytes)) = some (some (.string ⟨#[]⟩), 1, 16) := by kernel_rfl
theorem ext_eq (s : ByteArray) (a b : Nat) : s.extract a b = ⟨((s.data.toList.drop a).take (b - a)).toArray⟩ := by
  apply ByteArray.ext
  apply Array.toList_inj.1
  rw [ByteArray.data_extract]
  simp [List.extract_eq_take_drop]

theorem own_lower {base base' : Nat} {e : TypeId} {k : Nat} {v : Value} {n : Nat} {xs : List Value} {w : World} (h : w.ownsRow base e k v n xs) (hb : base' ≤ base) : w.ownsRow base' e k v n xs := by
  obtain ⟨h1, h2⟩ := h
  refine ⟨h1, ?_⟩
  rcases h2 with h2 | ⟨g, cap, cur, hv, hg, r⟩
  · exact .inl h2
  · exact .inr ⟨g, cap, cur, hv, by omega, r⟩
theorem own_below {base : Nat} {e : TypeId} {k : Nat} {v : Value} {n : Nat} {xs : List Value} {w w' : World} (h : w.ownsRow base e k v n xs) (hb : Below w.heap.size w w') : w'.ownsRow base e k v n xs := by
  obtain ⟨h1, h2⟩ := h
  refine ⟨h1, ?_⟩
  rcases h2 with h2 | ⟨g, cap, cur, hv, hg, hh, r⟩
  · exact .inl h2
  · refine .inr ⟨g, cap, cur, hv, hg, ?_, r⟩
    rw [hb.block g ?_, hh]
    exact (Array.getElem?_eq_some_iff.1 hh).1
theorem rest_le (E : Ck.Bs → Bool) (t : Ck.Bs) : (Ck.pieces E t).2.length ≤ t.length := by
  have h := congrArg List.length (Ck.pieces_join (E := E) t)
  rw [List.length_append] at h
  omega
/-- what is left, and one byte more -/
theorem rest_ext (E : Ck.Bs → Bool) (s : ByteArray) (k : Nat) (hk : k < s.size) :
    s.extract (k - (Ck.pieces E (s.data.toList.take k)).2.length) (k + 1) = ⟨((Ck.pieces E (s.data.toList.take k)).2 ++ [s[k]]).toArray⟩ := by
  rw [ext_eq]
  have hj := Ck.pieces_join (E := E) (s.data.toList.take k)
  have hl : (s.data.toList.take k).length = k := by rw [List.length_take, ← Lib.size_eq]; omega
  generalize (Ck.pieces E (s.data.toList.take k)).1.flatten = f at hj
  generalize (Ck.pieces E (s.data.toList.take k)).2 = r at hj ⊢
  have hfr : f.length + r.length = k := by rw [← List.length_append, hj, hl]
  rw [show k - r.length = f.length from by omega]
  congr 2
  have h1 : (s.data.toList.take (k + 1)).drop f.length = r ++ [s[k]] := by
    rw [take_snoc s k hk, ← hj, List.append_assoc, List.drop_left]
  rw [← h1, List.drop_take]

/-- one piece more behind an owned row -/
theorem own_str {base : Nat} {w wr w1 : World} {v v1 : Value} {l : List Ck.Bs} {e : ByteArray} {o : Obj} (hown : wr.ownsRow base 9 1 v l.length (l.map Sv))
    (hown1 : w1.ownsRow base 9 1 v1 (l.length + 1) (l.map Sv ++ [.string e])) (hg : (wr.alloc o).grownBy w1 v.ownBlock) (hbel : Below base w wr) (hbase : base ≤ w.heap.size) :
    w1.ownsRow base 9 1 v1 (l ++ [e.data.toList]).length ((l ++ [e.data.toList]).map Sv) ∧ Below base w w1 := by
  refine ⟨by simpa [Sv] using hown1, ?_⟩
  have hs := hbel.size
  refine (hbel.alloc (by omega) o).grown hg (by simp; omega) ?_
  intro k hk
  exact (hown.lt k hk).1

set_option maxHeartbeats 2000000 in
theorem rpieces_of (F : Nat → List Ck.Bs × Ck.Bs) (q : Nat → Nat) (b : Nat → Bool) (mn mx bt : Nat) (s : ByteArray) (w : World) (hs : s.size ≤ 4096)
    (hF0 : F 0 = ([], [])) (hq : ∀ k, q k ≤ k) (hq0 : q 0 = 0) (hlen : ∀ k, (F k).1.length ≤ k)
    (hyes : ∀ k, k < s.size → b k = true → F (k + 1) = ((F k).1 ++ [(s.extract (q k) (k + 1)).data.toList], []) ∧ q (k + 1) = k + 1)
    (hno : ∀ k, k < s.size → b k = false → (F (k + 1)).1 = (F k).1 ∧ q (k + 1) = q k)
    (hE : ∀ k, k < s.size → ∀ V, Calls Try.prog 27 #[cutV mn mx bt, .string (s.extract (q k) (k + 1))] V fun e w' => e = .returned (.bool (b k)) ∧ Below V.heap.size V w') :
    Calls Try.prog 17 #[cutV mn mx bt, .string s] w fun e w' => ∃ v, e = .returned (.tuple #[v, .string (s.extract (q s.size) s.size)]) ∧
      w'.ownsRow w.heap.size 9 1 v (F s.size).1.length ((F s.size).1.map Sv) ∧ Below w.heap.size w w' := by
  obtain ⟨i0, hi, hz0, hz1, hz2⟩ := info_parts info_str
  have hE' : ∀ k, k < s.size → ∀ V, Calls Try.prog 27 #[.agg #[.int .i64 mn, .int .i64 mx, .int .i64 bt], .string (s.extract (q k) (k + 1))] V fun e w' => e = .returned (.bool (b k)) ∧ Below V.heap.size V w' := hE
  clear hE
  unfold cutV
  go_enter Try.func17, Try.ntmps17
  go_upto_region 1 with fail
  obtain ⟨W4, hW4⟩ : ∃ W4, W4 = w.alloc (Obj.cells #[Value.int IntKind.i64 mn, Value.int IntKind.i64 mx, Value.int IntKind.i64 bt] 23) := ⟨_, rfl⟩
  have HB : Hid (Below w.heap.size w W4) := by rw [hW4]; exact (Below.refl _ w).alloc (Nat.le_refl _) _
  have hlw : w.heap.size < W4.heap.size := by rw [hW4]; simp
  have c0 : W4.cell? ⟨w.heap.size, 0, none⟩ = some (.int .i64 (mn : Int)) := by rw [hW4]; simp
  have c1 : W4.cell? ⟨w.heap.size, 1, none⟩ = some (.int .i64 (mx : Int)) := by rw [hW4]; simp
  have c2 : W4.cell? ⟨w.heap.size, 2, none⟩ = some (.int .i64 (bt : Int)) := by rw [hW4]; simp
  rw [← hW4]
  clear hW4
  go_wp2_with fail
  go_loopw [6, 7, 11] (fun v fr i wr => ∃ k : Nat, k ≤ s.size ∧ i = .int .i64 k ∧ fr = .int .i64 (q k) ∧ wr.ownsRow W4.heap.size 9 1 v (F k).1.length ((F k).1.map Sv) ∧ Below W4.heap.size W4 wr) (fun _ _ i _ => s.size - (intOf i).toNat)
  case atStart => exact ⟨0, Nat.zero_le _, rfl, by rw [hq0]; rfl, by rw [hF0]; exact World.ownsRow_nil _ _ _ _, Below.refl _ _⟩
  case round =>
    obtain ⟨k, hk, rfl, rfl, hown, hbel⟩ := hrel
    by_cases hlt : k < s.size
    · have hqk := hq k
      have hlk := hlen k
      have hcall := hE' k hlt
      have hy := hyes k hlt
      have hn := hno k hlt
      have hlr : w.heap.size < wr.heap.size := by have := hbel.size; omega
      have d0 : ∀ X : Since wr.heap.size wr, X.val.cell? ⟨w.heap.size, 0, none⟩ = some (.int .i64 (mn : Int)) := fun X => (X.property.cell (p := ⟨w.heap.size, 0, none⟩) hlr).trans ((hbel.cell (p := ⟨w.heap.size, 0, none⟩) hlw).trans c0)
      have d1 : ∀ X : Since wr.heap.size wr, X.val.cell? ⟨w.heap.size, 1, none⟩ = some (.int .i64 (mx : Int)) := fun X => (X.property.cell (p := ⟨w.heap.size, 1, none⟩) hlr).trans ((hbel.cell (p := ⟨w.heap.size, 1, none⟩) hlw).trans c1)
      have d2 : ∀ X : Since wr.heap.size wr, X.val.cell? ⟨w.heap.size, 2, none⟩ = some (.int .i64 (bt : Int)) := fun X => (X.property.cell (p := ⟨w.heap.size, 2, none⟩) hlr).trans ((hbel.cell (p := ⟨w.heap.size, 2, none⟩) hlw).trans c2)
      have hne : Nonempty (Since wr.heap.size wr) := ⟨⟨wr, Below.refl _ _⟩⟩
      generalize hqe : q k = Q at *
      generalize hbe : b k = bb at *
      generalize hle : F k = L at *
      generalize hse : s.extract Q (k + 1) = piece at *
      have HQ : Hid (q k = Q) := hqe
      have HL : Hid (F k = L) := hle
      have HS : Hid (s.extract Q (k + 1) = piece) := hse
      clear hqe hle
      go_upto_region 6 with fail
      refine wp_region_since (B := wr.heap.size) (W0 := wr) (by kernel_rfl) (by kernel_rfl) (Below.refl _ _) ?_
      repeat (go_big_quiet_step (fail))
      go_big_quiet_step (exact quiet_since _ (hcall _))
      repeat (go_big_quiet_step (fail))
      refine wpQuiet_nil ?_
      rintro w7 ⟨U, rfl⟩
      have hU := U.property
      have hown2 := own_below hown hU
      have hB2 := hbel.trans (hU.mono hbel.size)
      have hs2 := hB2.size
      generalize U.val = w7 at *
      clear hU hown hbel d0 d1 d2 hne hcall c0 c1 c2 hE' hyes hno
      cases bb with
      | true =>
        obtain ⟨hF1, hq1⟩ := hy rfl
        have HF1 : Hid (F (k + 1) = (L.1 ++ [piece.data.toList], [])) := hF1
        have HQ1 : Hid (q (k + 1) = k + 1) := hq1
        clear hF1 hq1 hy hn
        go_wp2_with (at_builtin; refine wpList_append_own _ rfl _ _ 24 rfl W4.heap.size 9 i0 (.string ⟨#[]⟩) 1 16 Try.underlying24 hi hz0 hz1 hz2 rfl (by decide) _ _ _ rfl (hown2.alloc _) ⟨w7.heap.size, 0, none⟩ 1 1 [.string piece] rfl rfl ?c1 ?c2 ?c3 ?c4 ?c5 ?_)
        case c1 =>
          intro j u hj
          match j, hj with
          | 0, hj => simp at hj; subst hj; simp [Addr.add]
        case c2 => intro u hu; simp at hu; subst hu; rfl
        case c3 => unfold maxLen; omega
        case c4 => omega
        case c5 => simp; omega
        intro v' w1 hown1 hgrow _
        have R := own_str hown2 hown1 hgrow hB2 (Nat.le_refl _)
        have HR1 : Hid (w1.ownsRow W4.heap.size 9 1 v' (F (k + 1)).1.length ((F (k + 1)).1.map Sv)) := by rw [HF1.out]; exact R.1
        have HR2 : Hid (Below W4.heap.size W4 w1) := R.2
        clear R hown1 hgrow hown2 hB2
        go_wp2_with fail
        go_roundw
        case rel => exact ⟨k + 1, by omega, by go_num, by rw [HQ1.out]; go_num, HR1.out, HR2.out⟩
        case measure => simp only [intOf]; omega
      | false =>
        obtain ⟨hF1, hq1⟩ := hn rfl
        have HR1 : Hid (w7.ownsRow W4.heap.size 9 1 u6 (F (k + 1)).1.length ((F (k + 1)).1.map Sv)) := by rw [hF1]; exact hown2
        have HR2 : Hid (Below W4.heap.size W4 w7) := hB2
        have HQ1 : Hid (q (k + 1) = Q) := hq1
        clear hF1 hq1 hy hn hown2 hB2
        go_wp2_with fail
        go_roundw
        case rel => exact ⟨k + 1, by omega, by go_num, by rw [HQ1.out], HR1.out, HR2.out⟩
        case measure => simp only [intOf]; omega
    · obtain rfl : k = s.size := by omega
      have hqk := hq s.size
      have hown2 := own_lower hown (show w.heap.size ≤ W4.heap.size by omega)
      have hB2 := HB.out.trans (hbel.mono (show w.heap.size ≤ W4.heap.size by omega))
      clear hown hbel
      generalize hqe : q s.size = Q at *
      have HQ : Hid (q s.size = Q) := hqe
      clear hqe
      have hne : Nonempty (Since wr.heap.size wr) := ⟨⟨wr, Below.refl _ _⟩⟩
      go_wp2_with fail
      refine wp_region_since (B := wr.heap.size) (W0 := wr) (by kernel_rfl) (by kernel_rfl) (Below.refl _ _) ?_
      repeat (go_big_quiet_step (fail))
      refine wpQuiet_nil ?_
      rintro w7 ⟨U, rfl⟩
      have hU := U.property
      have hown3 := own_below hown2 hU
      have hB3 := hB2.trans (hU.mono hB2.size)
      generalize U.val = w7 at *
      clear hU
      go_wp2_with fail
      go_ret2
      exact ⟨_, by rw [HQ.out]; rfl, hown3, hB3⟩
theorem sv_of (s : ByteArray) : Sv s.data.toList = .string s := by simp [Sv]
theorem rpieces_any (mn mx bt : Nat) (hb1 : 1 ≤ bt) (hb2 : bt ≤ 12) (s : ByteArray) (w : World) (hs : s.size ≤ 4096) :
    Calls Try.prog 17 #[cutV mn mx bt, .string s] w fun e w' => ∃ v, e = .returned (.tuple #[v, Sv (Ck.pieces (Ck.ends mn mx bt Rl.ofL) s.data.toList).2]) ∧
      w'.ownsRow w.heap.size 9 1 v (Ck.pieces (Ck.ends mn mx bt Rl.ofL) s.data.toList).1.length ((Ck.pieces (Ck.ends mn mx bt Rl.ofL) s.data.toList).1.map Sv) ∧ Below w.heap.size w w' := by
  generalize hE : Ck.ends mn mx bt Rl.ofL = E
  have hall : s.data.toList.take s.size = s.data.toList := List.take_of_length_le (by rw [← Lib.size_eq]; exact Nat.le_refl _)
  have hstep : ∀ k (hk : k < s.size), Ck.pieces E (s.data.toList.take (k + 1)) = Ck.step E (Ck.pieces E (s.data.toList.take k)) s[k] := fun k hk => by rw [take_snoc s k hk]; exact Ck.run_snoc _ _ _
  have hlenk : ∀ k, (Ck.pieces E (s.data.toList.take k)).2.length ≤ k := fun k => Nat.le_trans (rest_le E _) (by rw [List.length_take]; omega)
  have hbs : ∀ k (hk : k < s.size), (s.extract (k - (Ck.pieces E (s.data.toList.take k)).2.length) (k + 1)).data.toList = (Ck.pieces E (s.data.toList.take k)).2 ++ [s[k]] := fun k hk => by rw [rest_ext E s k hk]
  have hcount : ∀ k, (Ck.pieces E (s.data.toList.take k)).1.length ≤ k := by
    intro k
    induction k with
    | zero => simp [Ck.pieces, Ck.run]
    | succ k ih =>
      by_cases hk : k < s.size
      · rw [hstep k hk, Ck.step]
        split
        · simp; omega
        · simp; omega
      · rw [List.take_of_length_le (by rw [← Lib.size_eq]; omega)]
        rw [List.take_of_length_le (by rw [← Lib.size_eq]; omega)] at ih
        omega
  have h := rpieces_of (fun k => Ck.pieces E (s.data.toList.take k)) (fun k => k - (Ck.pieces E (s.data.toList.take k)).2.length)
    (fun k => if hk : k < s.size then E ((Ck.pieces E (s.data.toList.take k)).2 ++ [s[k]]) else false) mn mx bt s w hs rfl (fun k => Nat.sub_le _ _) rfl hcount ?_ ?_ ?_
  · refine h.mono ?_
    rintro e w' ⟨v, rfl, h1, h2⟩
    rw [hall] at h1
    refine ⟨v, ?_, h1, h2⟩
    have hj := Ck.pieces_join (E := E) s.data.toList
    rw [hall]
    generalize (Ck.pieces E s.data.toList).1.flatten = f at hj
    generalize (Ck.pieces E s.data.toList).2 = r at hj
    have hlen : f.length + r.length = s.size := by rw [← List.length_append, hj, ← Lib.size_eq]
    rw [show s.size - r.length = f.length from by omega, ext_eq, Sv]
    congr 5
    rw [← hj, List.drop_left, List.take_of_length_le (by omega)]
  · intro k hk hb
    rw [dif_pos hk] at hb
    rw [hbs k hk, hstep k hk, Ck.step, if_pos hb]
    exact ⟨rfl, by simp⟩
  · intro k hk hb
    rw [dif_pos hk] at hb
    rw [hstep k hk, Ck.step, if_neg (by rw [hb]; decide)]
    refine ⟨rfl, ?_⟩
    have := hlenk k
    rw [List.length_append, List.length_singleton]
    omega
  · intro k hk V
    rw [dif_pos hk]
    have hsz : (s.extract (k - (Ck.pieces E (s.data.toList.take k)).2.length) (k + 1)).size ≤ 4096 := by
      rw [Lib.size_eq, hbs k hk, List.length_append, List.length_singleton]
      have := hlenk k
      omega
    have := ends_any mn mx bt hb1 hb2 _ V hsz
    rw [hbs k hk, hE] at this
    exact this
end Go.Proofs.Ytdalpicpkandcaa
