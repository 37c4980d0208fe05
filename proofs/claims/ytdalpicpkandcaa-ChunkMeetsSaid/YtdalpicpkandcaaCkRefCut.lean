/-
  What Cut of package lumref answers.
-/
import Derived.Test.YtdalpicpkandcaaCkRef
namespace Go.Proofs.Ytdalpicpkandcaa
open Go.RowKit

/-- what Cut tells -/
def cutL (mn mx bt : Int) (s : ByteArray) : List Ck.Bs := if sizeN mn mx bt s.size = 0 then Ck.cut (Ck.ends mn.toNat mx.toNat bt.toNat Rl.ofL) s.data.toList else []
theorem sizeN_zero {mn mx bt n : Int} : sizeN mn mx bt n = 0 ↔ OkCut mn mx bt ∧ n ≤ 4096 := by
  unfold sizeN
  by_cases h : OkCut mn mx bt
  · rw [if_pos h]
    by_cases h2 : n ≤ 4096
    · rw [if_pos h2]; exact ⟨fun _ => ⟨h, h2⟩, fun _ => rfl⟩
    · rw [if_neg h2]; exact ⟨fun e => by omega, fun e => absurd e.2 h2⟩
  · rw [if_neg h]; exact ⟨fun e => by omega, fun e => absurd e.1 h⟩
theorem cut_some {E : Ck.Bs → Bool} {t : Ck.Bs} {l : List Ck.Bs} {q : Ck.Bs} (h : Ck.pieces E t = (l, q)) (hq : q ≠ []) : Ck.cut E t = l ++ [q] := by rw [Ck.cut_of h, if_neg hq]
theorem cut_none {E : Ck.Bs → Bool} {t : Ck.Bs} {l : List Ck.Bs} (h : Ck.pieces E t = (l, [])) : Ck.cut E t = l := by rw [Ck.cut_of h, if_pos rfl]

set_option maxHeartbeats 1000000 in
theorem rcut_of (l : List Ck.Bs) (q : ByteArray) (b : Bool) (mn mx bt : Int) (s : ByteArray) (w : World) (k : Int) (L : List Ck.Bs) (hl : l.length ≤ 4096)
    (hk : (k = 1 ∧ L = []) ∨ (k = 2 ∧ L = [] ∧ 4096 < s.size) ∨ (k = 0 ∧ s.size ≤ 4096 ∧ L = if b then l ++ [q.data.toList] else l)) (hb : q.toList.isEmpty = !b)
    (hok : ∀ V, Calls Try.prog 14 #[cutV mn mx bt] V fun e w' => e = .returned (.int .i64 (if k = 1 then 1 else 0)) ∧ Below V.heap.size V w')
    (hp : k = 0 → ∀ V, Calls Try.prog 17 #[cutV mn mx bt, .string s] V fun e w' => ∃ v, e = .returned (.tuple #[v, .string q]) ∧ w'.ownsRow V.heap.size 9 1 v l.length (l.map Sv) ∧ Below V.heap.size V w') :
    Calls Try.prog 12 #[cutV mn mx bt, .string s] w fun e w' => ∃ v, e = .returned (.tuple #[v, .int .i64 k]) ∧ w'.ownsRow w.heap.size 9 1 v L.length (L.map Sv) ∧ Below w.heap.size w w' := by
  obtain ⟨i0, hi, hz0, hz1, hz2⟩ := info_parts info_str
  unfold cutV at hok hp ⊢
  rcases hk with ⟨rfl, rfl⟩ | ⟨rfl, rfl, hs⟩ | ⟨rfl, hs, hL⟩
  · rw [if_pos rfl] at hok
    clear hp
    go_enter Try.func12, Try.ntmps12
    go_wp2_with fail
    refine (hok _).mono ?_
    rintro e w1 ⟨rfl, hb1⟩
    have hB1 := below_past hb1
    clear hb1
    go_wp2_with fail
    go_ret2
    exact ⟨_, rfl, World.ownsRow_nil _ _ _ _, hB1⟩
  · rw [if_neg (by omega)] at hok
    clear hp
    go_enter Try.func12, Try.ntmps12
    go_wp2_with fail
    refine (hok _).mono ?_
    rintro e w1 ⟨rfl, hb1⟩
    have hB1 := below_past hb1
    clear hb1
    go_wp2_with fail
    go_ret2
    exact ⟨_, rfl, World.ownsRow_nil _ _ _ _, hB1⟩
  · rw [if_neg (by omega)] at hok
    replace hp := hp rfl
    have HL : Hid (L = if b then l ++ [q.data.toList] else l) := hL
    clear hL
    go_enter Try.func12, Try.ntmps12
    go_upto_region 1 with fail
    obtain ⟨W4, hW4⟩ : ∃ W4, W4 = w.alloc (Obj.cells #[Value.int IntKind.i64 mn, Value.int IntKind.i64 mx, Value.int IntKind.i64 bt] 23) := ⟨_, rfl⟩
    have hlw : w.heap.size < W4.heap.size := by rw [hW4]; simp
    have HB : Hid (Below w.heap.size w W4) := by rw [hW4]; exact (Below.refl _ w).alloc (Nat.le_refl _) _
    have c0 : W4.cell? ⟨w.heap.size, 0, none⟩ = some (.int .i64 mn) := by rw [hW4]; simp
    have c1 : W4.cell? ⟨w.heap.size, 1, none⟩ = some (.int .i64 mx) := by rw [hW4]; simp
    have c2 : W4.cell? ⟨w.heap.size, 2, none⟩ = some (.int .i64 bt) := by rw [hW4]; simp
    rw [← hW4]
    clear hW4
    go_wp2_with fail
    refine (hok _).mono ?_
    rintro e w1 ⟨rfl, hb1⟩
    have d0 : w1.cell? ⟨w.heap.size, 0, none⟩ = some (.int .i64 mn) := (hb1.cell (p := ⟨w.heap.size, 0, none⟩) hlw).trans c0
    have d1 : w1.cell? ⟨w.heap.size, 1, none⟩ = some (.int .i64 mx) := (hb1.cell (p := ⟨w.heap.size, 1, none⟩) hlw).trans c1
    have d2 : w1.cell? ⟨w.heap.size, 2, none⟩ = some (.int .i64 bt) := (hb1.cell (p := ⟨w.heap.size, 2, none⟩) hlw).trans c2
    have hl1 : w.heap.size < w1.heap.size := by have := hb1.size; omega
    have HB1 : Hid (Below w.heap.size w w1) := HB.out.trans (hb1.mono (by omega))
    clear hb1 c0 c1 c2 HB hok
    go_wp2_with fail
    refine (hp _).mono ?_
    rintro e w2 ⟨v, rfl, hown, hb2⟩
    have hB2 := HB1.out.trans (hb2.mono (by omega))
    have hs2 := hb2.size
    replace hown := own_lower hown (show w.heap.size ≤ w1.heap.size by omega)
    clear hb2 HB1 d0 d1 d2 hp
    cases b with
    | true =>
      replace hb : q.toList.isEmpty = false := hb
      go_wp2_with (at_builtin; refine wpList_append_own _ rfl _ _ 24 rfl w.heap.size 9 i0 (.string ⟨#[]⟩) 1 16 Try.underlying24 hi hz0 hz1 hz2 rfl (by decide) _ _ _ rfl (hown.alloc _) ⟨w2.heap.size, 0, none⟩ 1 1 [.string q] rfl rfl ?c1 ?c2 ?c3 ?c4 ?c5 ?_)
      case c1 =>
        intro j u hj
        match j, hj with
        | 0, hj => simp at hj; subst hj; simp [Addr.add]
      case c2 => intro u hu; simp at hu; subst hu; rfl
      case c3 => unfold maxLen; omega
      case c4 => omega
      case c5 => simp; omega
      intro v' w3 hown1 hgrow _
      have R := own_str hown hown1 hgrow hB2 (Nat.le_refl _)
      have HR : Hid (w3.ownsRow w.heap.size 9 1 v' L.length (L.map Sv)) := by rw [HL.out]; exact R.1
      have HR2 : Hid (Below w.heap.size w w3) := R.2
      clear R hown1 hgrow hown hB2
      go_wp2_with fail
      go_ret2
      exact ⟨_, rfl, HR.out, HR2.out⟩
    | false =>
      replace hb : q.toList.isEmpty = true := hb
      go_wp2_with fail
      go_ret2
      exact ⟨_, rfl, by rw [HL.out]; exact hown, hB2⟩

theorem rcut_any (mn mx bt : Int) (s : ByteArray) (w : World) :
    Calls Try.prog 12 #[cutV mn mx bt, .string s] w fun e w' => ∃ v, e = .returned (.tuple #[v, .int .i64 (sizeN mn mx bt s.size)]) ∧
      w'.ownsRow w.heap.size 9 1 v (cutL mn mx bt s).length ((cutL mn mx bt s).map Sv) ∧ Below w.heap.size w w' := by
  obtain ⟨l, q, hp⟩ : ∃ l q, Ck.pieces (Ck.ends mn.toNat mx.toNat bt.toNat Rl.ofL) s.data.toList = (l, q) := ⟨_, _, rfl⟩
  by_cases hO : OkCut mn mx bt
  · by_cases hs : s.size ≤ 4096
    · obtain ⟨h1, h2, h3, h4, h5⟩ := hO
      obtain ⟨mn, rfl⟩ := Int.eq_ofNat_of_zero_le (show 0 ≤ mn by omega)
      obtain ⟨mx, rfl⟩ := Int.eq_ofNat_of_zero_le (show 0 ≤ mx by omega)
      obtain ⟨bt, rfl⟩ := Int.eq_ofNat_of_zero_le (show 0 ≤ bt by omega)
      simp only [Int.toNat_natCast] at hp
      have hz : sizeN mn mx bt s.size = 0 := sizeN_zero.2 ⟨⟨h1, h2, h3, h4, h5⟩, by omega⟩
      have hL : cutL mn mx bt s = if !q.isEmpty then l ++ [q] else l := by
        rw [cutL, if_pos hz]
        simp only [Int.toNat_natCast]
        cases q with
        | nil => exact cut_none hp
        | cons b t => exact cut_some hp (by simp)
      have hlen : l.length ≤ 4096 := by
        have hm := Ck.pieces_ends (E := Ck.ends mn mx bt Rl.ofL) s.data.toList
        have hj := congrArg List.length (Ck.pieces_join (E := Ck.ends mn mx bt Rl.ofL) s.data.toList)
        rw [hp] at hm hj
        rw [← Lib.size_eq, List.length_append] at hj
        have : ∀ (l : List Ck.Bs), (∀ p ∈ l, 1 ≤ p.length) → l.length ≤ l.flatten.length := by
          intro l
          induction l with
          | nil => intro _; simp
          | cons p l ih =>
            intro h
            have a := ih (fun p hp => h p (List.mem_cons_of_mem _ hp))
            have b := h p (List.mem_cons_self)
            rw [List.flatten_cons, List.length_append, List.length_cons]; omega
        have := this l (fun p hp => by
          have := Ck.ends_min (hm p hp) (by omega)
          omega)
        dsimp only at hj
        omega
      refine rcut_of l ⟨q.toArray⟩ (!q.isEmpty) mn mx bt s w _ _ hlen (.inr (.inr ⟨hz, hs, hL⟩)) ?_ ?_ ?_
      · rw [Lib.toList_data]; simp
      · intro V
        rw [hz]
        have := rok_any mn mx bt V
        rw [okN_yes ⟨h1, h2, h3, h4, h5⟩] at this
        exact this
      · intro _ V
        have := rpieces_any mn mx bt (by omega) (by omega) s V hs
        rw [hp] at this
        exact this
    · have hz : sizeN mn mx bt s.size = 2 := by rw [sizeN, if_pos hO, if_neg (by omega)]
      refine rcut_of [] ⟨#[]⟩ false mn mx bt s w _ _ (by simp) (.inr (.inl ⟨hz, by rw [cutL, if_neg (by omega)], by omega⟩)) (by rw [Lib.toList_data]; rfl) ?_ (fun h => by omega)
      intro V
      rw [hz]
      have := rok_any mn mx bt V
      rw [okN_yes hO] at this
      exact this
  · have hz : sizeN mn mx bt s.size = 1 := by rw [sizeN, if_neg hO]
    refine rcut_of [] ⟨#[]⟩ false mn mx bt s w _ _ (by simp) (.inl ⟨hz, by rw [cutL, if_neg (by omega)]⟩) (by rw [Lib.toList_data]; rfl) ?_ (fun h => by omega)
    intro V
    rw [hz]
    have := rok_any mn mx bt V
    rw [okN_no hO] at this
    exact this
end Go.Proofs.Ytdalpicpkandcaa
