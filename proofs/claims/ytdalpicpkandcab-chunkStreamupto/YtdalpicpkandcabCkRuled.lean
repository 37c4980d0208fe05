/-
  What the functions tell that ruled of package chunk answers.
-/
import Derived.Test.YtdalpicpkandcabCkBytes
import Derived.Test.YtdalpicpkandcabRf
import Derived.RangeFuncCalls
import Derived.Shelf.Abstract
import Derived.Shelf.RegionOpen
import Derived.OwnWalkIn
import Derived.TacticsInMore
import Derived.LoopNIn
import Derived.LoopIn
namespace Go.Proofs.Ytdalpicpkandcab
open Go.RowKit Go.Shelf

attribute [local go_sem] Oper.semAt_some
/-- what a round is told -/
def encP (x : Nat × Ck.Bs) : Array Value := #[.int .i64 (x.1 : Int), Sv x.2]
/-- a Cut in a variable -/
def CutAt (W : World) (B : Nat) (mn mx bt : Int) : Prop := W.heap[B]? = some (.cells #[.int .i64 mn, .int .i64 mx, .int .i64 bt] 23 (0, 0))
theorem CutAt.lt {W : World} {B : Nat} {mn mx bt : Int} (h : CutAt W B mn mx bt) : B < W.heap.size := (Array.getElem?_eq_some_iff.1 h).1
theorem CutAt.c0 {W : World} {B : Nat} {mn mx bt : Int} (h : CutAt W B mn mx bt) : W.cell? ⟨B, 0, none⟩ = some (.int .i64 mn) := by simp [World.cell?, show W.heap[B]? = _ from h]
theorem CutAt.c1 {W : World} {B : Nat} {mn mx bt : Int} (h : CutAt W B mn mx bt) : W.cell? ⟨B, 1, none⟩ = some (.int .i64 mx) := by simp [World.cell?, show W.heap[B]? = _ from h]
theorem CutAt.c2 {W : World} {B : Nat} {mn mx bt : Int} (h : CutAt W B mn mx bt) : W.cell? ⟨B, 2, none⟩ = some (.int .i64 bt) := by simp [World.cell?, show W.heap[B]? = _ from h]

theorem CutAt.kept {p : Nat → Prop} {A B : World} {k : Nat} {mn mx bt : Int} (h : CutAt A k mn mx bt) (hk : Kept p A B) (hp : p k) : CutAt B k mn mx bt := hk.obj hp h

theorem drop_ext (s : ByteArray) (a : Nat) : (s.extract a s.size).data.toList = s.data.toList.drop a := by
  rw [ext_eq]
  show List.take _ _ = _
  rw [List.take_of_length_le (by rw [List.length_drop, ← Lib.size_eq]; exact Nat.le_refl _)]
theorem piece_ext (s : ByteArray) (a n : Nat) : s.extract a (a + n) = ⟨((s.data.toList.drop a).take n).toArray⟩ := by
  rw [ext_eq, show a + n - a = n from by omega]

set_option maxRecDepth 100000 in
set_option maxHeartbeats 2000000 in
theorem ruled1_of (mn mx bt : Nat) (hb1 : 1 ≤ bt) (hb2 : bt ≤ 12) (s : ByteArray) (hs : s.size ≤ 4096) (W : World) (bc bs : Nat) (hc : CutAt W bc mn mx bt) (hsb : Boxed W bs 9 (.string s))
    (XS : List (Nat × Ck.Bs)) (R : Nat → List (Nat × Ck.Bs)) (N : Nat → Nat)
    (hN : ∀ a, a ≤ s.size → Ck.First (Ck.ends mn mx bt Rl.ofL) (s.data.toList.drop a) (N a)) (hX : XS = R 0) (hR0 : ∀ a, a ≤ s.size → N a = 0 → R a = [])
    (hR1 : ∀ a, a ≤ s.size → 0 < N a → a + N a ≤ s.size ∧ R a = (a, (s.data.toList.drop a).take (N a)) :: R (a + N a)) :
    Tells Try.prog 20 #[.pointer (some ⟨bc, 0, none⟩), .pointer (some ⟨bs, 0, none⟩)] encP XS 0 (fun k => k = bc ∨ k = bs) W := by
  intro l J Jx hJ hJx hY h0
  have c0 := hc.c0
  have c1 := hc.c1
  have c2 := hc.c2
  have cs := hsb.cell
  have hby : ∀ a, a ≤ s.size → ∀ V, Calls Try.prog 21 #[.agg #[.int .i64 mn, .int .i64 mx, .int .i64 bt], .string (s.extract a s.size)] V fun e w' => e = .returned (.int .i64 (N a)) ∧ Below V.heap.size V w' := fun a ha V =>
    bytes_any mn mx bt hb1 hb2 (s.extract a s.size) V (by rw [ByteArray.size_extract]; omega) (N a) (by rw [drop_ext]; exact hN a ha)
  have hb0 : ∀ V, Calls Try.prog 21 #[.agg #[.int .i64 mn, .int .i64 mx, .int .i64 bt], .string s] V fun e w' => e = .returned (.int .i64 (N 0)) ∧ Below V.heap.size V w' := fun V => by
    have := hby 0 (Nat.zero_le _) V
    rwa [show s.extract 0 s.size = s from by simp] at this
  refine (callsIn_wide (n := 9)).1 ?_
  refine callsIn_of_wp Try.func20 rfl trivial ?_ rfl
  simp only [Try.ntmps20, List.size_toArray, List.length_cons, List.length_nil, Nat.reduceAdd, Nat.reduceSub, Array.replicate_succ, Array.replicate_zero, List.push_toArray, List.append_toArray, List.nil_append, List.cons_append]
  gi_wp2_with fail
  refine ⟨trivial, (callsIn_wide.2 (hb0 _)).mono ?_⟩
  rintro e w1 ⟨rfl, hbl⟩
  have HJ1 : Hid (J [] w1) := hJ _ _ _ (Nat.le_refl _) h0 (Kept.of_below hbl)
  have HC1 : Hid (CutAt w1 bc mn mx bt) := hc.kept (Kept.of_below (p := fun _ => True) hbl) trivial
  have HS1 : Hid (Boxed w1 bs 9 (.string s)) := (Kept.of_below (p := fun _ => True) hbl).boxed trivial hsb
  have hsz := hbl.size
  clear hbl hb0 c0 c1 c2 cs hc hsb h0
  gi_wp2_with fail
  gi_loopw [4, 5] (fun u v wr => ∃ (pre : List (Nat × Ck.Bs)) (a : Nat), u = .int .i64 a ∧ v = .int .i64 (N a) ∧ a ≤ s.size ∧ Hid (XS = pre ++ R a) ∧ Hid (J pre wr) ∧ Hid (CutAt wr bc mn mx bt) ∧ Hid (Boxed wr bs 9 (.string s)) ∧ W.heap.size ≤ wr.heap.size) (fun u _ _ => s.size - (intOf u).toNat)
  case atStart => exact ⟨[], 0, rfl, rfl, Nat.zero_le _, by rw [hX]; rfl, HJ1, HC1, HS1, hsz⟩
  case round =>
    obtain ⟨pre, a, rfl, rfl, ha, HX, HJ, HC, HS, hsw⟩ := hrel
    clear HJ1 HC1 HS1 hsz
    by_cases hn : N a = 0
    · have HX2 : Hid (XS = pre) := by show _ = _; rw [HX.out, hR0 a ha hn, List.append_nil]
      have hq : ¬ 0 < N a := by omega
      clear hY hby hN hR0 hR1 hn
      gi_wp2_with fail
      go_end0
      exact ⟨⟨_, rfl⟩, hsw, .inl (by rw [HX2.out]; exact HJ.out)⟩
    · obtain ⟨ha2, hRa⟩ := hR1 a ha (by omega)
      have hq : 0 < N a := by omega
      have cs := HS.out.cell
      have HP : Hid (pre ++ [(a, (s.data.toList.drop a).take (N a))] <+: XS) := ⟨R (a + N a), by rw [HX.out, hRa]; simp⟩
      have HX2 : Hid (XS = (pre ++ [(a, (s.data.toList.drop a).take (N a))]) ++ R (a + N a)) := by show _ = _; rw [HX.out, hRa]; simp
      have HE : Hid (encP (a, (s.data.toList.drop a).take (N a)) = #[.int .i64 (a : Int), .string (s.extract a (a + N a))]) := by
        show _ = _
        rw [piece_ext]; rfl
      have HY : Hid (∀ W1, W.heap.size ≤ W1.heap.size → J pre W1 → YieldAt Fence.wide 8 Try.prog l #[.int .i64 (a : Int), .string (s.extract a (a + N a))] W1 fun e W' =>
          Kept (fun k => (k = bc ∨ k = bs) ∨ (W.heap.size ≤ k ∧ k < W.heap.size + 0)) W1 W' ∧ ((e = .returned (.bool true) ∧ J (pre ++ [(a, (s.data.toList.drop a).take (N a))]) W') ∨ (e = .returned (.bool false) ∧ Jx (pre ++ [(a, (s.data.toList.drop a).take (N a))]) W'))) := fun W1 h1 h2 => by
        have := hY pre _ W1 h1 HP.out h2
        rw [HE.out] at this
        exact YieldAt.anyDepth' 8 this
      have hcl := fun V => clone_any (s.extract a (a + N a)) V (by rw [ByteArray.size_extract]; omega)
      have hnext := hby (a + N a) ha2
      generalize (pre ++ [(a, (s.data.toList.drop a).take (N a))]) = pre2 at *
      generalize hnn : N (a + N a) = n2 at *
      generalize hna : N a = n at *
      have HN2 : Hid (N (a + n) = n2) := hnn
      generalize hpe : s.extract a (a + n) = piece at *
      clear hY hby hN hR0 hR1 hn hRa HX HE hnn
      gi_wp2_with fail
      refine ⟨trivial, (callsIn_wide.2 (hcl _)).mono ?_⟩
      rintro e w2 ⟨rfl, hbl⟩
      have hs2 : W.heap.size ≤ w2.heap.size := by have := hbl.size; omega
      obtain ⟨fn, tmps, assign, body, hy, hR⟩ := HY.out w2 hs2 (hJ _ _ _ hsw HJ.out (Kept.of_below hbl))
      have HC2 : Hid (CutAt w2 bc mn mx bt) := HC.out.kept (Kept.of_below (p := fun _ => True) hbl) trivial
      have HS2 : Hid (Boxed w2 bs 9 (.string s)) := (Kept.of_below (p := fun _ => True) hbl).boxed trivial HS.out
      clear hcl hbl HY HJ HC HS cs hsw
      gi_wp2_with fail
      refine hR.mono ?_
      rintro e w3 ⟨hk3, (⟨rfl, hJ3⟩ | ⟨rfl, hx3⟩)⟩
      · have HJ3 : Hid (J pre2 w3) := hJ3
        have HC3 : Hid (CutAt w3 bc mn mx bt) := HC2.out.kept hk3 (.inl (.inl rfl))
        have HS3 : Hid (Boxed w3 bs 9 (.string s)) := hk3.boxed (.inl (.inr rfl)) HS2.out
        have hs3 : W.heap.size ≤ w3.heap.size := by have := hk3.size; omega
        have c0 := HC3.out.c0
        have c1 := HC3.out.c1
        have c2 := HC3.out.c2
        have cs := HS3.out.cell
        clear hR hy hk3 hJ3 HC2 HS2 hs2 hpe
        gi_wp2_with fail
        have lc := HC3.out.lt
        have ls := HS3.out.lt
        have d0 : ∀ X : Since w3.heap.size w3, X.val.cell? ⟨bc, 0, none⟩ = some (.int .i64 (mn : Int)) := fun X => (X.property.cell (p := ⟨bc, 0, none⟩) lc).trans c0
        have d1 : ∀ X : Since w3.heap.size w3, X.val.cell? ⟨bc, 1, none⟩ = some (.int .i64 (mx : Int)) := fun X => (X.property.cell (p := ⟨bc, 1, none⟩) lc).trans c1
        have d2 : ∀ X : Since w3.heap.size w3, X.val.cell? ⟨bc, 2, none⟩ = some (.int .i64 (bt : Int)) := fun X => (X.property.cell (p := ⟨bc, 2, none⟩) lc).trans c2
        have ds : ∀ X : Since w3.heap.size w3, X.val.cell? ⟨bs, 0, none⟩ = some (.string s) := fun X => (X.property.cell (p := ⟨bs, 0, none⟩) ls).trans cs
        have hne : Nonempty (Since w3.heap.size w3) := ⟨⟨w3, Below.refl _ _⟩⟩
        refine wpIn_wide.2 ?_
        refine wp_region_since (B := w3.heap.size) (W0 := w3) (by kernel_rfl) (by kernel_rfl) (Below.refl _ _) ?_
        repeat (go_big_quiet_step (fail))
        go_big_quiet_step (exact quiet_since _ (hnext _))
        repeat (go_big_quiet_step (fail))
        refine wpQuiet_nil ?_
        rintro w4 ⟨U, rfl⟩
        have hbl := U.property
        generalize U.val = w4 at *
        clear d0 d1 d2 ds hne lc ls
        have HJ4 : Hid (J pre2 w4) := hJ _ _ _ hs3 HJ3.out (Kept.of_below hbl)
        have HC4 : Hid (CutAt w4 bc mn mx bt) := HC3.out.kept (Kept.of_below (p := fun _ => True) hbl) trivial
        have HS4 : Hid (Boxed w4 bs 9 (.string s)) := (Kept.of_below (p := fun _ => True) hbl).boxed trivial HS3.out
        have hs4 : W.heap.size ≤ w4.heap.size := by have := hbl.size; omega
        clear hbl HJ3 HC3 HS3 hs3 c0 c1 c2 cs hnext
        gi_wp2_with fail
        go_roundw
        case rel => exact ⟨pre2, a + n, by go_num, by rw [HN2.out], ha2, HX2, HJ4, HC4, HS4, hs4⟩
        case measure => simp only [intOf]; omega
      · have hs3 : W.heap.size ≤ w3.heap.size := by have := hk3.size; omega
        gi_wp2_with fail
        refine bodyPost_ret (results_none rfl _ _ _) rfl ?_
        exact ⟨⟨_, rfl⟩, hs3, .inr ⟨pre2, HP.out, hx3⟩⟩

theorem ruled1_tells (mn mx bt : Nat) (hb1 : 1 ≤ bt) (hb2 : bt ≤ 12) (s : ByteArray) (hs : s.size ≤ 4096) (W : World) (bc bs : Nat) (hc : CutAt W bc mn mx bt) (hsb : Boxed W bs 9 (.string s)) :
    Tells Try.prog 20 #[.pointer (some ⟨bc, 0, none⟩), .pointer (some ⟨bs, 0, none⟩)] encP (Ck.withAt 0 (Ck.pieces (Ck.ends mn mx bt Rl.ofL) s.data.toList).1) 0 (fun k => k = bc ∨ k = bs) W := by
  have hex : ∀ a, ∃ n, Ck.First (Ck.ends mn mx bt Rl.ofL) (s.data.toList.drop a) n := fun a => Ck.first_ex _ _
  refine ruled1_of mn mx bt hb1 hb2 s hs W bc bs hc hsb _ (fun a => Ck.withAt a (Ck.pieces (Ck.ends mn mx bt Rl.ofL) (s.data.toList.drop a)).1) (fun a => Classical.choose (hex a)) (fun a _ => Classical.choose_spec (hex a)) rfl ?_ ?_
  · intro a _ h0
    have h := Classical.choose_spec (hex a)
    rw [h0] at h
    rw [Ck.pieces_first_none h]
    rfl
  · intro a ha h0
    have h := Classical.choose_spec (hex a)
    generalize Classical.choose (hex a) = n at h h0 ⊢
    have hle : a + n ≤ s.size := by
      rcases h.hit with h1 | ⟨_, h2, _⟩
      · omega
      · rw [List.length_drop, ← Lib.size_eq] at h2; omega
    refine ⟨hle, ?_⟩
    have hl : ((s.data.toList.drop a).take n).length = n := by rw [List.length_take, List.length_drop, ← Lib.size_eq]; omega
    rw [Ck.pieces_first h h0, Ck.withAt, hl, List.drop_drop]

set_option maxHeartbeats 400000 in
theorem ruled_any (mn mx bt : Int) (s : ByteArray) (w : World) :
    Calls Try.prog 10 #[cutV mn mx bt, .string s] w fun e w' => e = .returned (.func (.func 20) #[] #[.pointer (some ⟨w.heap.size, 0, none⟩), .pointer (some ⟨w.heap.size + 1, 0, none⟩)]) ∧
      CutAt w' w.heap.size mn mx bt ∧ Boxed w' (w.heap.size + 1) 9 (.string s) ∧ Below w.heap.size w w' ∧ w'.heap.size = w.heap.size + 2 := by
  unfold cutV
  go_enter Try.func10, Try.ntmps10
  go_wp2
  go_ret
  refine ⟨rfl, ?_, ?_, ((Below.refl _ w).alloc (Nat.le_refl _) _).alloc (by simp) _, by simp⟩
  · exact (Below.heap_alloc _ _ _ (by simp)).trans (World.alloc_heap_new w _)
  · have := World.alloc_heap_new (w.alloc (.cells #[.int .i64 mn, .int .i64 mx, .int .i64 bt] 23)) (.cells #[.string s] 9)
    rwa [World.size_alloc] at this
end Go.Proofs.Ytdalpicpkandcab
