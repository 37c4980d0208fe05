/-
  P37: what Join of package names answers.
-/
import Derived.Test.YtfcnlfblfennaaaDoorNnAll
import Derived.Test.YtfcnlfblfennaaaDoorShelfJoin
namespace Go.Proofs.YtfcnlfblfennaaaDoor
open Go.RowKit
set_option maxRecDepth 4000

namespace Nn
theorem fin_le {low c n : Nat} (hn : n ≤ 4) : (fin low c n).2 ≤ 4 := by
  unfold fin; split
  · exact Nat.zero_le _
  · exact hn
theorem chrR_four (n b0 b1 b2 b3 : Nat) : (chrR n b0 b1 b2 b3).2 ≤ 4 := by
  unfold chrR
  repeat' split
  all_goals first | exact fin_le (by omega) | simp
theorem chr_four_le (l : List UInt8) : (chr l).2 ≤ 4 := by
  by_cases h : l = []
  · subst h; decide
  · rw [chr_R l h]; exact chrR_four ..
theorem chars_long (l : List UInt8) : ∀ cs, chars l = some cs → l.length ≤ 4 * cs.length := by
  induction l using chars_ind with
  | h0 => intro cs _; simp
  | hs l hne ih =>
    intro cs h
    obtain ⟨_, h1, r, rfl, h2⟩ := chars_head h hne
    have := ih (by omega) r h2
    have h4 := chr_four_le l
    rw [List.length_drop] at this
    simp only [List.length_cons]
    omega
theorem nm_long {s : List UInt8} (h : nm s = 0) : s.length ≤ 96 := by
  unfold nm at h
  cases hc : chars s with
  | none => rw [hc] at h; simp at h
  | some l =>
    rw [hc] at h
    dsimp only at h
    split at h
    · simp at h
    split at h
    · simp at h
    split at h
    · simp at h
    have := chars_long s l hc
    omega
theorem errsF_len : ∀ (l : List Name) (i : Nat), errsF i l = 0 → i ≤ 8 → i + l.length ≤ 8
  | [], i, _, h => by simpa using h
  | s :: l, i, h, hi => by
    rw [errsF] at h
    split at h
    · simp at h
    split at h
    · rename_i q; exact absurd h q
    · have := errsF_len l (i + 1) h (by omega)
      simp only [List.length_cons]
      omega
theorem errs_len {l : List Name} (h : errs l = 0) : l.length ≤ 8 := by have := errsF_len l 0 h (by omega); omega
theorem tails_len : ∀ (l : List Name), (∀ s ∈ l, s.length ≤ 96) → (tails l).length ≤ 97 * l.length
  | [], _ => by simp [tails]
  | s :: l, h => by
    have h1 := h s (List.mem_cons_self ..)
    have h2 := tails_len l fun t ht => h t (List.mem_cons_of_mem _ ht)
    unfold tails at h2 ⊢
    simp only [List.flatMap_cons, List.length_append, List.length_cons]
    omega
theorem tails_few {l : List Name} (h : errs l = 0) : (tails l).length ≤ 776 := by
  have h1 := tails_len l fun s hs => nm_long (errs_ok h s hs)
  have h2 := errs_len h
  omega
theorem join_tails : ∀ (l : List Name), l ≠ [] → 47 :: Lib.join l [47] = tails l
  | [], h => absurd rfl h
  | [s], _ => by simp [Lib.join, tails, List.intercalate]
  | s :: t :: l, _ => by
    have ih := join_tails (t :: l) (by simp)
    unfold Lib.join at ih ⊢
    simp only [List.intercalate, List.intersperse_cons_cons, List.flatten_cons] at ih ⊢
    rw [show tails (s :: t :: l) = 47 :: s ++ tails (t :: l) from by simp [tails], ← ih]
    simp
end Nn

/-- a text of bytes -/
def St (l : List UInt8) : Value := .string ⟨l.toArray⟩
/-- what Join answers -/
def JnOut (L : List Nn.Name) (w : World) (e : Ending) (w' : World) : Prop :=
  e = .returned (.tuple #[St (Nn.join L).1, .int .i64 (Nn.join L).2]) ∧ Below w.heap.size w w'

theorem cat_slash (x : List UInt8) : (⟨#[47]⟩ : ByteArray) ++ ⟨x.toArray⟩ = ⟨(47 :: x).toArray⟩ := by
  apply ByteArray.ext
  apply Array.toList_inj.1
  simp

set_option maxHeartbeats 1000000 in
theorem join_bad (v : Value) (l : List ByteArray) (w : World) (h : Tx w v l) (hl : l.length ≤ 140737488351232) (hf : Few l) (hT : Tabs w) (E : Int) (hE : E = Nn.errs (dl l)) (h0 : E ≠ 0) :
    Calls Tryd.prog 18 #[v] w fun e w' => e = .returned (.tuple #[St [], .int .i64 E]) ∧ Below w.heap.size w w' := by
  have ha := all_any v l w h hl hf hT
  rw [← hE] at ha
  obtain ⟨a, c, rfl⟩ := h.slice
  have hqn : (E != 0) = true := by rw [bne_iff_ne]; exact h0
  clear h hf hT hE
  go_enter Tryd.func18, Tryd.ntmps18
  go_wp2_with fail
  refine ha.mono ?_
  rintro e w1 ⟨rfl, b1⟩
  have HB : Hid (Below w.heap.size w w1) := b1
  clear b1
  go_wp2_with fail
  go_ret2
  exact ⟨rfl, HB.out⟩

theorem Nn.join_few {L : List Nn.Name} (h0 : Nn.errs L = 0) : (Lib.join L [47]).length ≤ 776 := by
  by_cases hn : L = []
  · rw [hn]; simp [Lib.join, List.intercalate]
  · have h1 := Nn.join_tails L hn
    have h2 := Nn.tails_few h0
    rw [← h1] at h2
    simp only [List.length_cons] at h2
    omega
theorem jn_any (v : Value) (l : List ByteArray) (w : World) (h : Tx w v l) (h0 : Nn.errs (dl l) = 0) (hc : Cp v) :
    Calls Tryd.prog 35 #[v, .string ⟨#[47]⟩] w fun e w' => e = .returned (St (Lib.join (dl l) [47])) ∧ Below w.heap.size w w' := by
  rcases h.at_ with ⟨⟨a, c, rfl⟩, rfl⟩ | ⟨bk, o, cap, rfl, hbk, hcell⟩
  · refine (Tryd.strings_Join_none a c ⟨#[47]⟩ w).mono ?_
    rintro e w' ⟨rfl, rfl⟩
    exact ⟨rfl, Below.refl _ _⟩
  · have hlen := Nn.errs_len h0
    rw [dl_length] at hlen
    have hj : (Lib.join (dl l) [47]).length ≤ 140737488355328 := by have := Nn.join_few h0; omega
    refine Tryd.strings_Join bk o cap l ⟨#[47]⟩ w ?_ hbk (by omega) (hc _ _ _ rfl) hj
    intro j x hx
    have hjl := (List.getElem?_eq_some_iff.1 hx).1
    rw [hcell j hjl, List.getD_eq_getElem?_getD, hx]
    rfl

set_option maxHeartbeats 1000000 in
theorem join_ok' (v : Value) (l : List ByteArray) (w : World) (h : Tx w v l) (hc : Cp v) (hl : l.length ≤ 140737488351232) (hf : Few l) (hT : Tabs w) (h0 : Nn.errs (dl l) = 0) (J : List UInt8) (hJ : J = Lib.join (dl l) [47]) :
    Calls Tryd.prog 18 #[v] w fun e w' => e = .returned (.tuple #[St (47 :: J), .int .i64 0]) ∧ Below w.heap.size w w' := by
  have ha := all_any v l w h hl hf hT
  have hJs : ¬ 9223372036854775807 < 1 + J.length := by rw [hJ]; have := Nn.join_few h0; omega
  rw [h0] at ha
  have hj : ∀ u, Below w.heap.size w u → Calls Tryd.prog 35 #[v, .string ⟨#[47]⟩] u fun e w' => e = .returned (St J) ∧ Below u.heap.size u w' := fun u hu => by
    rw [hJ]; exact jn_any v l u (h.below hu) h0 hc
  obtain ⟨a, c, rfl⟩ := h.slice
  clear h hf hT hc h0 hJ
  go_enter Tryd.func18, Tryd.ntmps18
  go_wp2_with fail
  refine ha.mono ?_
  rintro e w1 ⟨rfl, b1⟩
  have HB : Hid (Below w.heap.size w w1) := b1
  have hj2 := hj w1 b1
  clear b1 hj
  go_wp2_with fail
  refine hj2.mono ?_
  rintro e w2 ⟨rfl, b2⟩
  have HB2 : Hid (Below w.heap.size w w2) := HB.out.trans (b2.mono HB.out.size)
  clear b2
  rw [St]
  go_wp2_with fail
  go_ret2
  exact ⟨by rw [cat_slash]; rfl, HB2.out⟩

theorem joinG_any (v : Value) (l : List ByteArray) (w : World) (h : Tx w v l) (hc : Cp v) (hl : l.length ≤ 140737488351232) (hf : Few l) (hT : Tabs w) :
    Calls Tryd.prog 18 #[v] w (JnOut (dl l) w) := by
  by_cases h0 : Nn.errs (dl l) = 0
  · refine (join_ok' v l w h hc hl hf hT h0 _ rfl).mono ?_
    rintro e w' ⟨rfl, b⟩
    refine ⟨?_, b⟩
    have hx : Nn.join (dl l) = (47 :: Lib.join (dl l) [47], 0) := by
      unfold Nn.join Nn.joinB
      rw [if_neg (by simpa using h0)]
      by_cases hn : dl l = []
      · rw [if_pos hn, hn]; rfl
      · rw [if_neg hn, Nn.join_tails _ hn]
    rw [hx]
  · refine (join_bad v l w h hl hf hT _ rfl h0).mono ?_
    rintro e w' ⟨rfl, b⟩
    refine ⟨?_, b⟩
    have hx : Nn.join (dl l) = ([], Nn.errs (dl l)) := by
      unfold Nn.join
      rw [if_pos h0]
    rw [hx]
end Go.Proofs.YtfcnlfblfennaaaDoor
