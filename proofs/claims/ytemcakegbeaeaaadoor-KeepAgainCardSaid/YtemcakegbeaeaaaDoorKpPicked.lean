/-
  What picked of package lumkeep answers; what Pick and Check of package keep are asked to answer.
-/
import Derived.Test.YtemcakegbeaeaaaDoorKpMem
import Derived.Test.YtemcakegbeaeaaaDoorKpRPick
import Derived.Test.YtemcakegbeaeaaaDoorOwnLow
namespace Go.Proofs.YtemcakegbeaeaaaDoor
open Go.RowKit
set_option maxRecDepth 4000

set_option maxHeartbeats 4000000 in
theorem picked_any (v u : Value) (l : List Int) (m : List Bool) (w : World) (h : Ints w v l) (hm : Bls w u m) (hlm : l.length = m.length) (hl : l.length ≤ 1000000) :
    Calls Tryd.prog 13 #[v, u] w fun e w' => ∃ x, e = .returned x ∧ w'.ownsRow w.heap.size 3 1 x (Kp.pk l m).length ((Kp.pk l m).map Iv) ∧ Below w.heap.size w w' := by
  obtain ⟨i0, hi, hz0, hz1, hz2⟩ := info_parts info_int
  obtain ⟨a, c, rfl⟩ := h.slice
  obtain ⟨a', c', rfl⟩ := hm.slice
  rw [← hlm] at hm ⊢
  have HI : Hid (Ints w (.slice a l.length c) l) := h
  have HM : Hid (Bls w (.slice a' l.length c') m) := hm
  have HLM : Hid (l.length = m.length) := hlm
  have H0 : Hid (w.ownsRow w.heap.size 3 1 (.slice none 0 0) (Kp.pk (l.take 0) (m.take 0)).length ((Kp.pk (l.take 0) (m.take 0)).map Iv)) := World.ownsRow_nil _ _ _ _
  have HL : Hid (∀ k, k ≤ l.length → (Kp.pk (l.take k) (m.take k)).length ≤ k) := by
    intro k
    induction k with
    | zero => intro _; simp [Kp.pk]
    | succ k ih =>
      intro hk
      have := ih (by omega)
      rw [Kp.pk_next hlm (by omega) (List.getElem?_eq_getElem (by omega))]
      split
      · rw [List.length_append, List.length_singleton]; omega
      · omega
  clear h hm hlm
  go_enter Tryd.func13, Tryd.ntmps13
  go_wp2_with fail
  go_loopw [5, 10] (fun sv i wr => ∃ k : Nat, k ≤ l.length ∧ i = .int .i64 k ∧ Hid (wr.ownsRow w.heap.size 3 1 sv (Kp.pk (l.take k) (m.take k)).length ((Kp.pk (l.take k) (m.take k)).map Iv)) ∧ Hid (Below w.heap.size w wr)) (fun _ i _ => l.length - (intOf i).toNat)
  case atStart => exact ⟨0, by omega, rfl, H0, Below.refl _ _⟩
  case round =>
    obtain ⟨k, hk, rfl, HS, HB⟩ := hrel
    obtain ⟨sa, sc, hsv⟩ := own_form HS.out
    subst hsv
    by_cases hlk : k < l.length
    · have hki : (k : Int) < (l.length : Int) := by omega
      have hlm := HLM.out
      obtain ⟨bk, o, rfl, -, hbk, y0⟩ := HI.out.get k hlk
      have y1 := (HB.out.cell (p := ⟨bk, o + k, none⟩) hbk).trans y0
      obtain ⟨bk', o', rfl, -, hbk', z0⟩ := HM.out.get k (by omega)
      have z1 := (HB.out.cell (p := ⟨bk', o' + k, none⟩) hbk').trans z0
      have HN : Hid (Kp.pk (l.take (k + 1)) (m.take (k + 1)) = if m[k]'(by omega) then Kp.pk (l.take k) (m.take k) ++ [l[k]] else Kp.pk (l.take k) (m.take k)) := by
        have := Kp.pk_next hlm hlk (List.getElem?_eq_getElem (by omega))
        rw [List.getD_eq_getElem?_getD, List.getElem?_eq_getElem hlk] at this
        exact this
      have hSl := HL.out k (by omega)
      obtain ⟨b, hb⟩ : ∃ b, b = m[k]'(by omega) := ⟨_, rfl⟩
      rw [← hb] at HN z1
      clear hb y0 z0 hlm
      generalize Kp.pk (l.take k) (m.take k) = S at *
      obtain ⟨S', hS'⟩ : ∃ S', S' = Kp.pk (l.take (k + 1)) (m.take (k + 1)) := ⟨_, rfl⟩
      have HSe : Hid (Kp.pk (l.take (k + 1)) (m.take (k + 1)) = S') := hS'.symm
      rw [← hS'] at HN
      clear hS'
      generalize l[k] = t at *
      have hown := HS.out
      have hbel := HB.out
      have hbs := hbel.size
      clear HS HB
      cases b with
      | true =>
        have HN' : Hid (S' = S ++ [t]) := HN.out
        go_wp2_with (at_builtin; refine wpList_append_own _ rfl _ _ 24 rfl w.heap.size 3 i0 (.int .i64 0) 1 8 Tryd.underlying24 hi hz0 hz1 hz2 rfl (by decide) _ _ _ rfl (hown.alloc _) ⟨wr.heap.size, 0, none⟩ 1 1 [.int .i64 t] rfl rfl ?c1 ?c2 ?c3 ?c4 ?c5 ?_)
        case c2 => rfl
        case c3 => unfold maxLen; omega
        case c4 => omega
        case c5 => first | omega | (simp; omega)
        intro v' w8 hown1 hgrow _
        have R := own_int (w := w) hown hown1 hgrow hbel (Nat.le_refl _)
        have HR1 : Hid (w8.ownsRow w.heap.size 3 1 v' S'.length (S'.map Iv)) := by rw [HN'.out]; exact R.1
        have HR2 : Hid (Below w.heap.size w w8) := R.2
        clear R hown1 hgrow hown hbel
        go_wp2_with fail
        go_roundw
        case rel => exact ⟨k + 1, by omega, by go_num, by rw [HSe.out]; exact HR1, HR2⟩
        case measure => simp only [intOf]; omega
      | false =>
        have HN' : Hid (S' = S) := HN.out
        have HR1 : Hid (wr.ownsRow w.heap.size 3 1 (.slice sa S.length sc) S'.length (S'.map Iv)) := by rw [HN'.out]; exact hown
        have HR2 : Hid (Below w.heap.size w wr) := hbel
        clear hown hbel
        go_wp2_with fail
        go_roundw
        case rel => exact ⟨k + 1, by omega, by go_num, by rw [HSe.out]; exact HR1, HR2⟩
        case measure => simp only [intOf]; omega
    · obtain rfl : k = l.length := by omega
      have HR1 : Hid (wr.ownsRow w.heap.size 3 1 (.slice sa (Kp.pk (l.take l.length) (m.take l.length)).length sc) (Kp.pk l m).length ((Kp.pk l m).map Iv)) := by
        have := HS.out
        have e : Kp.pk (l.take l.length) (m.take l.length) = Kp.pk l m := by rw [List.take_length, HLM.out, List.take_length]
        rw [e] at this ⊢
        exact this
      clear HS
      generalize Kp.pk (l.take l.length) (m.take l.length) = S at *
      go_wp2_with fail
      go_ret
      exact ⟨_, rfl, HR1.out, HB.out⟩

/-- what Pick of package keep is to answer -/
def PickOk (w : World) : Prop := ∀ (W : World), Below w.heap.size w W → ∀ (p : Kp.Pol) (v : Value) (l : List Int), Ints W v l → l.length ≤ 140737488351232 →
  Calls Tryd.prog 8 #[polV p, v] W fun e w' => ∃ u, e = .returned (.tuple #[u, .int .i64 (Kp.pickErr p l)]) ∧ w'.ownsRow W.heap.size 4 1 u (Kp.pickL p l).length ((Kp.pickL p l).map Tb) ∧ Below W.heap.size W w'

/-- what Check of package keep is to answer -/
def CheckOk : Prop := ∀ (p : Kp.Pol) (W : World), Calls Tryd.prog 10 #[polV p] W fun e w' => e = .returned (.int .i64 (Kp.pErr p)) ∧ Below W.heap.size W w'

end Go.Proofs.YtemcakegbeaeaaaDoor
