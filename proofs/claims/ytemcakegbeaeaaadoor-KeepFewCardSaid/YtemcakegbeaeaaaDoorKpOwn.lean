/-
  What the four spans' functions and Check of package keep answer.
-/
import Derived.Test.YtemcakegbeaeaaaDoorKpSpan
import Derived.Test.YtemcakegbeaeaaaDoorKpPicked
import Derived.Test.YtemcakegbeaeaaaDoorCvDay
import Derived.Laws.Rows
import Derived.Lib.SmallJoins
namespace Go.Proofs.YtemcakegbeaeaaaDoor
open Go.RowKit
set_option maxRecDepth 4000

theorem lens_on {w w' : World} {B : Nat} (h : Lens w) (hb : Below B w w') (hB : w.heap.size ≤ B) : Lens w' := Joins.tab_stays (g := 0) (by kernel_rfl) h hb hB

/-- a span as a value -/
def spanV (r : Nat) (n : Int) : Value := .agg #[.int .i64 (Kp.spanP r n).1, .int .i64 (Kp.spanP r n).2]

/-- the four functions -/
def spanF : Nat → Value
  | 0 => .func (.func 18) #[] #[]
  | 1 => .func (.func 19) #[] #[]
  | 2 => .func (.func 20) #[] #[]
  | _ => .func (.func 21) #[] #[]

theorem span_und_b : (Tryd.prog.underlying 47).map (fun d => match d with | .struct _ | .array _ _ => true | _ => false) = some true := by kernel_rfl
theorem span_size : (Tryd.prog.info? 47).map (·.size) = some 2 := by kernel_rfl
theorem span_und : ∃ d, Tryd.prog.underlying 47 = some d ∧ (match d with | .struct _ | .array _ _ => true | _ => false) = true := Option.map_eq_some_iff.1 span_und_b

theorem span_ret {fn : Func} {p : Tmp} (h : fn.results = #[.cell p 47]) (tmps : Array Value) (w : World) (a b : Value) (hp : tmps.getD p undef = .pointer (some ⟨w.heap.size, 0, none⟩)) :
    (results fn tmps).run Tryd.prog (w.alloc (.cells #[a, b] 47)) = .ok (.agg #[a, b]) (w.alloc (.cells #[a, b] 47)) := by
  obtain ⟨d, h1, h2⟩ := span_und
  exact results_cell_row h tmps _ w.heap.size _ _ _ d hp (heap_alloc_new _ _) h1 (by cases d <;> first | rfl | (simp at h2)) span_size

set_option maxHeartbeats 1000000 in
theorem daySpan_any (n : Int) (w : World) : Calls Tryd.prog 18 #[.int .i64 n] w fun e w' => e = .returned (spanV 0 n) ∧ Below w.heap.size w w' := by
  go_enter Tryd.func18, Tryd.ntmps18
  go_wp2_with fail
  refine bodyPost_ret (span_ret rfl _ _ _ _ rfl) rfl ?_
  exact ⟨rfl, (Below.refl _ w).alloc (Nat.le_refl _) _⟩

set_option maxHeartbeats 1000000 in
theorem weekSpan_any (n : Int) (w : World) (hn : Cv.dayOk n) : Calls Tryd.prog 19 #[.int .i64 n] w fun e w' => e = .returned (spanV 1 n) ∧ Below w.heap.size w w' := by
  have hw := fun W => week_any n W
  unfold weekV at hw
  simp only [if_pos hn] at hw
  obtain ⟨a, ha⟩ : ∃ a, a = Cv.week n := ⟨_, rfl⟩
  have hs : spanV 1 n = .agg #[.int .i64 a.1, .int .i64 a.2] := by rw [ha]; rfl
  rw [hs]
  rw [← ha] at hw
  clear hs ha
  go_enter Tryd.func19, Tryd.ntmps19
  go_wp2_with fail
  refine (hw _).mono ?_
  rintro e w1 ⟨rfl, rfl⟩
  go_wp2_with fail
  refine bodyPost_ret (span_ret rfl _ _ _ _ rfl) rfl ?_
  exact ⟨rfl, (Below.refl _ w).alloc (Nat.le_refl _) _⟩

set_option maxHeartbeats 1000000 in
theorem monthSpan_any (n : Int) (w : World) (hn : Cv.dayOk n) (hL : Lens w) : Calls Tryd.prog 20 #[.int .i64 n] w fun e w' => e = .returned (spanV 2 n) ∧ Below w.heap.size w w' := by
  have hw := fun W => date_any n W
  rw [dateV_ok hn] at hw
  obtain ⟨a, ha⟩ : ∃ a, a = Cv.date n := ⟨_, rfl⟩
  have hs : spanV 2 n = .agg #[.int .i64 a.1, .int .i64 a.2.1] := by rw [ha]; rfl
  rw [hs]
  rw [← ha] at hw
  have HL : Hid (Lens (w.alloc (.cells #[.int .i64 0, .int .i64 0] 47))) := lens_on hL ((Below.refl _ w).alloc (Nat.le_refl _) _) (Nat.le_refl _)
  clear hs ha
  go_enter Tryd.func20, Tryd.ntmps20
  go_wp2_with fail
  refine (hw _ HL.out).mono ?_
  rintro e w1 ⟨rfl, rfl⟩
  go_wp2_with fail
  refine bodyPost_ret (span_ret rfl _ _ _ _ rfl) rfl ?_
  exact ⟨rfl, (Below.refl _ w).alloc (Nat.le_refl _) _⟩

set_option maxHeartbeats 1000000 in
theorem yearSpan_any (n : Int) (w : World) (hn : Cv.dayOk n) (hL : Lens w) : Calls Tryd.prog 21 #[.int .i64 n] w fun e w' => e = .returned (spanV 3 n) ∧ Below w.heap.size w w' := by
  have hw := fun W => date_any n W
  rw [dateV_ok hn] at hw
  obtain ⟨a, ha⟩ : ∃ a, a = Cv.date n := ⟨_, rfl⟩
  have hs : spanV 3 n = .agg #[.int .i64 a.1, .int .i64 0] := by rw [ha]; rfl
  rw [hs]
  rw [← ha] at hw
  have HL : Hid (Lens (w.alloc (.cells #[.int .i64 0, .int .i64 0] 47))) := lens_on hL ((Below.refl _ w).alloc (Nat.le_refl _) _) (Nat.le_refl _)
  clear hs ha
  go_enter Tryd.func21, Tryd.ntmps21
  go_wp2_with fail
  refine (hw _ HL.out).mono ?_
  rintro e w1 ⟨rfl, rfl⟩
  go_wp2_with fail
  refine bodyPost_ret (span_ret rfl _ _ _ _ rfl) rfl ?_
  exact ⟨rfl, (Below.refl _ w).alloc (Nat.le_refl _) _⟩

/-- one number of a policy -/
def okN (n : Int) : Prop := 0 ≤ n ∧ n ≤ 100

theorem pErr_bad {a b c d e : Int} (h : ¬ (okN a ∧ okN b ∧ okN c ∧ okN d ∧ okN e)) : Kp.pErr ⟨a, b, c, d, e⟩ = 1 := if_neg h
theorem pErr_good {a b c d e : Int} (h : okN a ∧ okN b ∧ okN c ∧ okN d ∧ okN e) : Kp.pErr ⟨a, b, c, d, e⟩ = 0 := if_pos h

theorem five_at (a b c d e : Int) (k : Nat) (hk : k < 5) (W : World) : (Instr.index 43 (.agg #[.int .i64 a, .int .i64 b, .int .i64 c, .int .i64 d, .int .i64 e]) (.int .i64 k)).run Tryd.prog W = .ok (.int .i64 ([a, b, c, d, e].getD k 0)) W := by
  have h : Tryd.prog.underlying 43 = some (.array 5 3) := by kernel_rfl
  have : k = 0 ∨ k = 1 ∨ k = 2 ∨ k = 3 ∨ k = 4 := by omega
  rcases this with rfl | rfl | rfl | rfl | rfl
  all_goals simp [Instr.index, run_underlying h, asIntOf, go_sem]

set_option maxHeartbeats 4000000 in
theorem kcheck_any : CheckOk := by
  rintro ⟨a, b, c, d, e⟩ w
  unfold polV
  dsimp only
  have HB := fun t => (Below.refl w.heap.size w).alloc (Nat.le_refl _) (.cells (polC ⟨a, b, c, d, e⟩) t)
  unfold polC at HB
  dsimp only at HB
  have P1 : ∀ (h : ¬ (okN a ∧ okN b ∧ okN c ∧ okN d ∧ okN e)), Hid (Kp.pErr ⟨a, b, c, d, e⟩ = 1) := fun h => pErr_bad h
  have P0 : ∀ (h : okN a ∧ okN b ∧ okN c ∧ okN d ∧ okN e), Hid (Kp.pErr ⟨a, b, c, d, e⟩ = 0) := fun h => pErr_good h
  generalize Kp.pErr ⟨a, b, c, d, e⟩ = z at *
  obtain ⟨f, hf⟩ : ∃ f : Nat → Int, f 0 = a ∧ f 1 = b ∧ f 2 = c ∧ f 3 = d ∧ f 4 = e := ⟨fun k => if k = 0 then a else if k = 1 then b else if k = 2 then c else if k = 3 then d else e, rfl, rfl, rfl, rfl, rfl⟩
  have Hf : Hid (f 0 = a ∧ f 1 = b ∧ f 2 = c ∧ f 3 = d ∧ f 4 = e) := hf
  clear hf
  go_enter Tryd.func10, Tryd.ntmps10
  go_wp2_with fail
  go_loopw [4, 16] (fun _ i wr => ∃ k : Nat, k ≤ 5 ∧ i = .int .i64 k ∧ Hid (∀ j, j < k → okN (f j)) ∧ Hid (Below w.heap.size w wr)) (fun _ i _ => 5 - (intOf i).toNat)
  case atStart => exact ⟨0, by omega, rfl, fun j hj => by omega, HB _⟩
  case round =>
    obtain ⟨k, hk, rfl, HO, HB2⟩ := hrel
    have HN : Hid (k < 5 → okN (f k) → ∀ j, j < k + 1 → okN (f j)) := fun _ h2 j hj => by
      by_cases e : j = k
      · rw [e]; exact h2
      · exact HO.out j (by omega)
    have HX : Hid (k < 5 → ¬ okN (f k) → z = 1) := fun h1 h2 => P1 (fun q => h2 (by
      obtain ⟨e0, e1, e2, e3, e4⟩ := Hf.out
      have : k = 0 ∨ k = 1 ∨ k = 2 ∨ k = 3 ∨ k = 4 := by omega
      rcases this with rfl | rfl | rfl | rfl | rfl
      · rw [e0]; exact q.1
      · rw [e1]; exact q.2.1
      · rw [e2]; exact q.2.2.1
      · rw [e3]; exact q.2.2.2.1
      · rw [e4]; exact q.2.2.2.2))
    by_cases h5 : k < 5
    · have hx : Hid (∀ W, (Instr.index 43 (.agg #[.int .i64 a, .int .i64 b, .int .i64 c, .int .i64 d, .int .i64 e]) (.int .i64 k)).run Tryd.prog W = .ok (.int .i64 (f k)) W) := fun W => by
        have := five_at a b c d e k h5 W
        rw [this]
        obtain ⟨e0, e1, e2, e3, e4⟩ := Hf.out
        have : k = 0 ∨ k = 1 ∨ k = 2 ∨ k = 3 ∨ k = 4 := by omega
        rcases this with rfl | rfl | rfl | rfl | rfl
        · rw [e0]; rfl
        · rw [e1]; rfl
        · rw [e2]; rfl
        · rw [e3]; rfl
        · rw [e4]; rfl
      have hx2 := hx.out
      generalize f k = n at *
      clear HO Hf P0 P1
      by_cases h0 : n < 0
      · have hz : Hid (z = 1) := HX.out h5 (fun q => by unfold okN at q; omega)
        clear HX HN
        go_wp2_with fail
        go_ret
        exact ⟨by rw [hz.out]; rfl, HB2.out⟩
      · by_cases h1 : 100 < n
        · have hz : Hid (z = 1) := HX.out h5 (fun q => by unfold okN at q; omega)
          clear HX HN
          go_wp2_with fail
          go_ret
          exact ⟨by rw [hz.out]; rfl, HB2.out⟩
        · have HN2 := HN.out h5 ⟨by omega, by omega⟩
          clear HX HN
          go_wp2_with fail
          go_roundw
          case rel => exact ⟨k + 1, by omega, by go_num, HN2, HB2.out⟩
          case measure => simp only [intOf]; omega
    · have hz : Hid (z = 0) := P0 (by
        obtain ⟨e0, e1, e2, e3, e4⟩ := Hf.out
        obtain rfl : k = 5 := by omega
        exact ⟨e0 ▸ HO.out 0 (by omega), e1 ▸ HO.out 1 (by omega), e2 ▸ HO.out 2 (by omega), e3 ▸ HO.out 3 (by omega), e4 ▸ HO.out 4 (by omega)⟩)
      clear HO Hf P0 P1 HX HN
      go_wp2_with fail
      go_ret
      exact ⟨by rw [hz.out]; rfl, HB2.out⟩

end Go.Proofs.YtemcakegbeaeaaaDoor
