/-
  What PutText and GetText of the document's answer (package lumref) answer.
-/
import Derived.Test.YtcgecafajgoeeaaDoorGetText
import Derived.Test.YtcgecafajgoeeaaDoorShelfRepl
import Derived.Lib.ReplaceLaws
namespace Go.Proofs.YtcgecafajgoeeaaDoor
open Go.RowKit
set_option maxRecDepth 4000

theorem replace_esc (l : List UInt8) : Lib.replaceK [0] [0, 255] (l.count 0) l = Nm.esc l := by
  induction l with
  | nil => rfl
  | cons b l ih =>
    by_cases hb : b = 0
    · subst hb
      rw [List.count_cons_self, Lib.replaceK_hit _ _ _ _ 0 (by rw [Lib.index_one]; rfl)]
      show [0, 255] ++ Lib.replaceK [0] [0, 255] (List.count 0 l) l = _
      rw [ih]; rfl
    · have hne : ¬ (b == (0 : UInt8)) = true := by simpa using hb
      rw [List.count_cons_of_ne hb]
      have he : Nm.esc (b :: l) = b :: Nm.esc l := by simp [Nm.esc, hb]
      rw [he]
      cases hk : List.count 0 l with
      | zero => rw [hk] at ih; rw [← ih]; rfl
      | succ k =>
        rw [hk] at ih
        obtain ⟨i, hi⟩ := Lib.index_of_count (s := l) (old := [0]) (by rw [Lib.count_one, hk]; omega)
        rw [Lib.replaceK_hit _ _ _ _ i hi] at ih
        have hi2 : Lib.index (b :: l) [0] = ((i + 1 : Nat) : Int) := by
          rw [Lib.index_one] at hi ⊢
          unfold Lib.indexByte
          rw [if_neg hne, hi, if_neg (by intro e; have := beq_iff_eq.1 e; omega)]
          omega
        rw [Lib.replaceK_hit _ _ _ _ (i + 1) hi2, List.take_succ_cons, ← ih]
        rfl
theorem replaceAll_esc (l : List UInt8) : Lib.replaceAll l [0] [0, 255] = Nm.esc l := by
  rw [Lib.replaceAll, Lib.replace, if_neg (by decide), Lib.replaceNum, if_pos (.inl (by decide)), Lib.count_one, replace_esc]

set_option maxHeartbeats 400000 in
theorem rputT_any (s : ByteArray) (m : Int) (w : World) (hm : w.cell? ⟨2, 0, none⟩ = some (.int .i64 m)) (hs : s.size ≤ 1024) :
    Calls Tryd.prog 21 #[.string s] w fun e w' => e = .returned (.tuple #[.string ⟨(Nm.putT s.data.toList).toArray⟩, .int .i64 0]) ∧ Below w.heap.size w w' := by
  have hl := Nm.esc_length s.data.toList
  rw [← Lib.size_eq] at hl
  have hcat : ∀ W : World, (Op.stringOp .add ⟨(Nm.esc s.data.toList).toArray⟩ ⟨#[0, 0]⟩).run Tryd.prog W = .ok (.string ⟨(Nm.putT s.data.toList).toArray⟩) W := fun W =>
    run_string_add_lists W _ [0, 0] (by omega) (by simp)
  have hcb := Lib.countB_mul_le ⟨#[0]⟩ (by decide) s.size s (Nat.le_refl _)
  go_enter Tryd.func21, Tryd.ntmps21
  go_wp2_with fail
  refine (Tryd.strings_ReplaceAll s ⟨#[0]⟩ ⟨#[0, 255]⟩ m _ (by omega) hm (by decide) (by
    have e1 : (⟨#[0]⟩ : ByteArray).size = 1 := rfl
    have e2 : (⟨#[0, 255]⟩ : ByteArray).size = 2 := rfl
    rw [e1] at hcb
    rw [e2]
    omega)).mono ?_
  rintro e w1 ⟨rfl, hb⟩
  rw [show ({ data := #[0] } : ByteArray).data.toList = [0] from rfl, show ({ data := #[0, 255] } : ByteArray).data.toList = [0, 255] from rfl, replaceAll_esc]
  go_wp2_with fail
  go_ret2
  exact ⟨rfl, hb⟩

set_option maxHeartbeats 400000 in
theorem rputT_large (s : ByteArray) (w : World) (hs : 1024 < s.size) (_h : s.size ≤ 140737488351232) :
    Calls Tryd.prog 21 #[.string s] w fun e w' => e = .returned (.tuple #[.string ⟨#[]⟩, .int .i64 2]) ∧ w' = w := by
  go_enter Tryd.func21, Tryd.ntmps21
  go_wp2
  go_ret2
  exact ⟨rfl, rfl⟩

theorem one_byte (s : ByteArray) (k : Nat) (h : k < s.size) : s.extract k (k + 1) = ⟨#[s[k]]⟩ := by
  apply ByteArray.ext
  apply Array.ext'
  rw [Lib.extract_data, drop_byte s k h, Nat.add_sub_cancel_left]
  rfl

set_option maxHeartbeats 2000000 in
theorem rgetT_any (s : ByteArray) (w : World) (hs : s.size ≤ 140737488351232) :
    Calls Tryd.prog 44 #[.string s] w fun e w' =>
      e = .returned (.tuple #[.string ⟨(Nm.getT s.data.toList).1.toArray⟩, .int .i64 (Nm.getT s.data.toList).2.1, .int .i64 (Nm.getT s.data.toList).2.2]) ∧ w' = w := by
  obtain ⟨G, hG⟩ : ∃ G, Nm.getT s.data.toList = G := ⟨_, rfl⟩
  rw [hG]
  have HG : Hid (Nm.scanT s.data.toList [] 0 = G) := hG
  clear hG
  go_enter Tryd.func44, Tryd.ntmps44
  go_wp2
  go_loop [5, 6] (fun v i => ∃ (k : Nat) (ys : List UInt8), k ≤ s.size ∧ i = .int .i64 k ∧ v = .string ⟨ys.toArray⟩ ∧ Hid (Nm.scanT (s.data.toList.drop k) ys k = G) ∧ ys.length ≤ 1024) (fun _ i => s.size - (intOf i).toNat)
  case atStart => exact ⟨0, [], Nat.zero_le _, rfl, rfl, HG, by simp⟩
  case round =>
    obtain ⟨k, ys, hk, rfl, rfl, HS, hyl⟩ := hrel
    by_cases hlt : k < s.size
    · have hb := s[k].toNat_lt
      have hds := drop_byte s k hlt
      have hex := one_byte s k hlt
      generalize hc : s[k] = c at *
      have hcat : (∀ W : World, (Op.stringOp .add ⟨ys.toArray⟩ ⟨#[c]⟩).run Tryd.prog W = .ok (.string ⟨(ys ++ [c]).toArray⟩) W) := fun W =>
        run_string_add_lists W ys [c] (by omega) (by simp)
      by_cases hz : c = 0
      · subst hz
        by_cases he : k + 1 = s.size
        · have hd1 : decide ((s.size : Int) ≤ (k : Int) + 1) = true := decide_eq_true (by omega)
          have hres : G = ([], 0, 3) := by rw [← HS.out, hds, List.drop_of_length_le (by rw [← Lib.size_eq]; omega)]; exact Nm.scan_end _ _
          subst hres
          clear hds HS HG he hcat hex
          go_wp2
          go_ret3
          exact ⟨rfl, rfl⟩
        have hlt2 : k + 1 < s.size := by omega
        have hd1 : decide ((s.size : Int) ≤ (k : Int) + 1) = false := decide_eq_false (by omega)
        have hds2 := drop_byte s (k + 1) hlt2
        rw [hds2] at hds
        have hb2 := s[k + 1].toNat_lt
        clear hds2
        generalize hd : s[k + 1] = d at *
        by_cases hd0 : d = 0
        · subst hd0
          have hres : G = (ys, k + 2, 0) := by rw [← HS.out, hds]; exact Nm.scan_zeros _ _ _
          subst hres
          clear hds HS HG hcat hex
          go_wp2
          go_ret3
          exact ⟨rfl, rfl⟩
        have hq2 : ((d.toNat : Int) == 0) = false := byte_ne d 0 hd0
        by_cases hd1' : d = 255
        · subst hd1'
          by_cases hf : ys.length = 1024
          · have hq3 : ((ys.length : Int) == 1024) = true := by rw [beq_iff_eq]; omega
            have hres : G = ([], 0, 2) := by rw [← HS.out, hds]; exact Nm.scan_esc_full _ _ _ hf
            subst hres
            clear hds HS HG hf hcat hex
            go_wp2
            go_ret3
            exact ⟨rfl, rfl⟩
          · have hq3 : ((ys.length : Int) == 1024) = false := by rw [beq_eq_false_iff_ne]; omega
            have HN : Hid (Nm.scanT (s.data.toList.drop (k + 2)) (ys ++ [0]) (k + 2) = G) := by show _ = _; rw [← HS.out, hds]; exact (Nm.scan_esc _ _ _ hf).symm
            clear hds HS HG
            go_wp2
            go_round
            case rel => exact ⟨k + 2, ys ++ [0], by omega, by go_num, rfl, HN, by simp; omega⟩
            case measure => simp [intOf]; omega
        · have hq3 : ((d.toNat : Int) != 255) = true := by rw [bne_iff_ne]; intro e; exact hd1' (UInt8.toNat_inj.1 (by simp; omega))
          have hres : G = ([], 0, 4) := by rw [← HS.out, hds]; exact Nm.scan_bad _ _ _ _ hd0 hd1'
          subst hres
          clear hds HS HG hcat hex
          go_wp2
          go_ret3
          exact ⟨rfl, rfl⟩
      · have hq : ((c.toNat : Int) == 0) = false := byte_ne c 0 hz
        by_cases hf : ys.length = 1024
        · have hq3 : ((ys.length : Int) == 1024) = true := by rw [beq_iff_eq]; omega
          have hres : G = ([], 0, 2) := by rw [← HS.out, hds]; exact Nm.scan_full _ _ _ _ hz hf
          subst hres
          clear hds HS HG hf hcat hex
          go_wp2
          go_ret3
          exact ⟨rfl, rfl⟩
        · have hq3 : ((ys.length : Int) == 1024) = false := by rw [beq_eq_false_iff_ne]; omega
          have HN : Hid (Nm.scanT (s.data.toList.drop (k + 1)) (ys ++ [c]) (k + 1) = G) := by show _ = _; rw [← HS.out, hds]; exact (Nm.scan_byte _ _ _ _ hz hf).symm
          clear hds HS HG
          go_wp2
          go_round
          case rel => exact ⟨k + 1, ys ++ [c], by omega, by go_num, rfl, HN, by simp; omega⟩
          case measure => simp [intOf]; omega
    · have hres : G = ([], 0, 3) := by rw [← HS.out, List.drop_of_length_le (by rw [← Lib.size_eq]; omega)]; rfl
      subst hres
      clear HS HG
      go_wp2
      go_ret3
      exact ⟨rfl, rfl⟩
end Go.Proofs.YtcgecafajgoeeaaDoor
