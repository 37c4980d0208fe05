/-
  Texts as they lie in memory; what within, checkSizes and guardOf of package shield answer.
-/
import Derived.Test.YtoeohnknpbdgdaaShAdd
import Derived.Lib.Strings
namespace Go.Proofs.Ytoeohnknpbdgdaa
open Go.RowKit
set_option maxRecDepth 4000

/-- texts that lie in memory -/
structure Tx (w : World) (v : Value) (l : List ByteArray) : Prop where
  at_ : ((∃ a c, v = .slice a 0 c) ∧ l = []) ∨ ∃ bk o cap, v = .slice (some ⟨bk, o, none⟩) l.length cap ∧ bk < w.heap.size ∧
    ∀ j, j < l.length → w.cell? ⟨bk, o + j, none⟩ = some (.string (l.getD j ByteArray.empty))
theorem Tx.slice {w : World} {v : Value} {l : List ByteArray} (h : Tx w v l) : ∃ a c, v = .slice a l.length c := by
  rcases h.at_ with ⟨⟨a, c, rfl⟩, rfl⟩ | ⟨bk, o, cap, rfl, _⟩
  · exact ⟨_, _, rfl⟩
  · exact ⟨_, _, rfl⟩
theorem Tx.kept {p : Nat → Prop} {w w' : World} {v : Value} {l : List ByteArray} (h : Tx w v l) (hk : Kept p w w') (hp : ∀ a n c, v = .slice (some a) n c → p a.block) : Tx w' v l := by
  rcases h.at_ with h | ⟨bk, o, cap, h1, h3, h4⟩
  · exact ⟨.inl h⟩
  · refine ⟨.inr ⟨bk, o, cap, h1, Nat.lt_of_lt_of_le h3 hk.size, fun j hj => ?_⟩⟩
    have e := hk.block bk h3 (hp _ _ _ h1)
    rw [show w'.cell? ⟨bk, o + j, none⟩ = w.cell? ⟨bk, o + j, none⟩ from by simp only [World.cell?, e]]
    exact h4 j hj
theorem Tx.below {w w' : World} {v : Value} {l : List ByteArray} (h : Tx w v l) (hb : Below w.heap.size w w') : Tx w' v l := h.kept (Kept.of_below (p := fun _ => True) hb) fun _ _ _ _ => trivial
/-- what is below a block stays -/
theorem Tx.under {B : Nat} {w w' : World} {v : Value} {l : List ByteArray} (h : Tx w v l) (hB : w.heap.size ≤ B) (hb : Below B w w') : Tx w' v l := h.below (hb.mono hB)
theorem Tx.get {w : World} {a : Option Addr} {n c : Nat} {l : List ByteArray} (h : Tx w (.slice a n c) l) (j : Nat) (hj : j < l.length) : ∃ bk o, a = some ⟨bk, o, none⟩ ∧ bk < w.heap.size ∧
    w.cell? ⟨bk, o + j, none⟩ = some (.string (l.getD j ByteArray.empty)) := by
  rcases h.at_ with ⟨_, rfl⟩ | ⟨bk, o, cap, h1, h3, h4⟩
  · simp at hj
  · simp at h1
    obtain ⟨rfl, rfl, rfl⟩ := h1
    exact ⟨bk, o, rfl, h3, h4 j hj⟩
def Tv (s : ByteArray) : Value := .string s
theorem Tx.of_own {base : Nat} {w : World} {v : Value} {l : List ByteArray} (h : w.ownsRow base 9 1 v l.length (l.map Tv)) : Tx w v l := by
  rcases h.2 with ⟨rfl, h0⟩ | ⟨g, cap, cur, rfl, hg, hh, _⟩
  · exact ⟨.inl ⟨⟨_, _, rfl⟩, List.length_eq_zero_iff.1 h0⟩⟩
  · refine ⟨.inr ⟨g, 0, cap, rfl, (Array.getElem?_eq_some_iff.1 hh).1, fun j hj => ?_⟩⟩
    rw [Nat.zero_add, h.cellAt j (by omega), List.getElem?_map, List.getD_eq_getElem?_getD, List.getElem?_eq_getElem hj]
    rfl
/-- one's own texts: another block than that of bytes -/
theorem Tx.zero {w : World} {a : Option Addr} {n c : Nat} {l : List ByteArray} (h : Tx w (.slice a n c) l) (hl : 0 < l.length) : ∃ bk o, a = some ⟨bk, o, none⟩ ∧ bk < w.heap.size ∧
    w.cell? ⟨bk, o, none⟩ = some (.string (l.getD 0 ByteArray.empty)) := by
  obtain ⟨bk, o, h1, h2, h3⟩ := h.get 0 hl
  exact ⟨bk, o, h1, h2, h3⟩

def wi (a b : Int) : Bool := decide (1 ≤ a ∧ a ≤ b)

theorem within_any (a b : Int) (w : World) :
    Calls Try.prog 24 #[.int .i64 a, .int .i64 b] w fun e w' => e = .returned (.bool (wi a b)) ∧ w' = w := by
  by_cases h : 1 ≤ a
  · by_cases h2 : a ≤ b
    · have HE : Hid (wi a b = true) := decide_eq_true ⟨h, h2⟩
      go_enter Try.func24, Try.ntmps24
      go_wp2_with fail
      go_ret
      exact ⟨by rw [HE.out]; rfl, rfl⟩
    · have HE : Hid (wi a b = false) := decide_eq_false fun h => h2 h.2
      go_enter Try.func24, Try.ntmps24
      go_wp2_with fail
      go_ret
      exact ⟨by rw [HE.out]; rfl, rfl⟩
  · have HE : Hid (wi a b = false) := decide_eq_false fun k => h k.1
    go_enter Try.func24, Try.ntmps24
    go_wp2_with fail
    go_ret
    exact ⟨by rw [HE.out]; rfl, rfl⟩

/-- the first that has more than 4096 bytes, or another length than m -/
def szs (m : Nat) : List ByteArray → Nat
  | [] => 0
  | s :: l => if 4096 < s.size then 2 else if s.size ≠ m then 4 else szs m l
def sizes (l : List ByteArray) : Nat := szs (l.getD 0 ByteArray.empty).size l
theorem szs_drop (m : Nat) (l : List ByteArray) (k : Nat) (hk : k < l.length) : szs m (l.drop k) = if 4096 < (l.getD k ByteArray.empty).size then 2 else if (l.getD k ByteArray.empty).size ≠ m then 4 else szs m (l.drop (k + 1)) := by
  rw [List.drop_eq_getElem_cons hk, szs, List.getD_eq_getElem?_getD, List.getElem?_eq_getElem hk]
  rfl
theorem szs_zero {m : Nat} : ∀ {l : List ByteArray}, szs m l = 0 → ∀ s ∈ l, s.size = m ∧ s.size ≤ 4096
  | [], _, s, hs => by cases hs
  | t :: l, h, s, hs => by
    rw [szs] at h
    split at h
    · omega
    · split at h
      · omega
      · rcases List.mem_cons.mp hs with rfl | hs
        · exact ⟨by omega, by omega⟩
        · exact szs_zero h s hs
theorem szs_ok {m : Nat} : ∀ {l : List ByteArray}, (∀ s ∈ l, s.size = m ∧ s.size ≤ 4096) → szs m l = 0
  | [], _ => rfl
  | t :: l, h => by
    have := h t (List.mem_cons_self ..)
    rw [szs, if_neg (by omega), if_neg (by omega)]
    exact szs_ok fun s hs => h s (List.mem_cons_of_mem _ hs)

set_option maxHeartbeats 1000000 in
theorem checkSizes_any (v : Value) (l : List ByteArray) (w : World) (h : Tx w v l) (hl : l.length ≤ 140737488351232) :
    Calls Try.prog 25 #[v] w fun e w' => e = .returned (.int .i64 (sizes l : Nat)) ∧ w' = w := by
  obtain ⟨a, c, rfl⟩ := h.slice
  have HS : Hid (szs (l.getD 0 ByteArray.empty).size (l.drop 0) = sizes l) := rfl
  have HX : Hid (Tx w (.slice a l.length c) l) := h
  clear h
  obtain ⟨N, hN⟩ : ∃ N, N = l.length := ⟨_, rfl⟩
  have HN : Hid (N = l.length) := hN
  rw [← hN] at HX hl ⊢
  clear hN
  generalize sizes l = Z at *
  go_enter Try.func25, Try.ntmps25
  go_wp2_with fail
  go_loop [7] (fun i => ∃ k : Nat, k ≤ N ∧ i = .int .i64 k ∧ Hid (szs (l.getD 0 ByteArray.empty).size (l.drop k) = Z)) (fun i => N - (intOf i).toNat)
  case atStart => exact ⟨0, by omega, rfl, HS⟩
  case round =>
    clear HS
    obtain ⟨k, hk, rfl, HS⟩ := hrel
    by_cases hlt : k < N
    · obtain ⟨bk, o, rfl, hbk, c0⟩ := HX.out.get k (by rw [← HN.out]; omega)
      obtain ⟨bk2, o2, e2, _, c1⟩ := HX.out.zero (by rw [← HN.out]; omega)
      simp at e2
      obtain ⟨rfl, rfl⟩ := e2
      have HD : Hid (Z = if 4096 < (l.getD k ByteArray.empty).size then 2 else if (l.getD k ByteArray.empty).size ≠ (l.getD 0 ByteArray.empty).size then 4 else szs (l.getD 0 ByteArray.empty).size (l.drop (k + 1))) := by
        show _ = _
        rw [← szs_drop _ _ _ (by rw [← HN.out]; omega)]; exact HS.out.symm
      generalize l.getD k ByteArray.empty = s at *
      generalize l.getD 0 ByteArray.empty = t at *
      clear HS
      by_cases h1 : 4096 < s.size
      · have HZ : Hid (Z = 2) := by have := HD.out; rwa [if_pos h1] at this
        go_wp2_with fail
        go_ret
        exact ⟨by rw [HZ.out]; rfl, rfl⟩
      · by_cases h2 : s.size = t.size
        · have hq : ((s.size : Int) != (t.size : Int)) = false := by rw [bne_eq_false_iff_eq]; omega
          have HZ : Hid (szs t.size (l.drop (k + 1)) = Z) := by have := HD.out; rw [if_neg h1, if_neg (by omega)] at this; exact this.symm
          clear h2 HD
          go_wp2_with fail
          go_round
          case rel => exact ⟨k + 1, by omega, by go_num, HZ⟩
          case measure => simp only [intOf]; omega
        · have hq : ((s.size : Int) != (t.size : Int)) = true := by rw [bne_iff_ne]; omega
          have HZ : Hid (Z = 4) := by have := HD.out; rwa [if_neg h1, if_pos h2] at this
          clear h2 HD
          go_wp2_with fail
          go_ret
          exact ⟨by rw [HZ.out]; rfl, rfl⟩
    · have HZ : Hid (Z = 0) := by
        have := HS.out
        rw [List.drop_eq_nil_of_le (by rw [← HN.out]; omega)] at this
        exact this.symm
      obtain rfl : k = N := by omega
      go_wp2_with fail
      go_ret
      exact ⟨by rw [HZ.out]; rfl, rfl⟩

theorem text_ne {s t : ByteArray} (h : ¬ s = t) : (s.toList == t.toList) = false := by
  rw [beq_eq_false_iff_ne]
  intro h'
  rw [Lib.toList_data, Lib.toList_data] at h'
  exact h (ByteArray.ext (Array.toList_inj.1 h'))
end Go.Proofs.Ytoeohnknpbdgdaa
