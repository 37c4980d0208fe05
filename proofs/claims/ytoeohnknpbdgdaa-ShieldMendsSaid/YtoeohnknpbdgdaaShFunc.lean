/-
  What slices.ContainsFunc answers of the function of lumlaw.ShieldMends: all texts have the length of the shard's.
-/
import Derived.Test.YtoeohnknpbdgdaaShTxt
namespace Go.Proofs.Ytoeohnknpbdgdaa
open Go.RowKit
set_option maxRecDepth 4000

theorem clos_any (p s : ByteArray) (B : Nat) (w : World) (h : w.cell? ⟨B, 1, none⟩ = some (.string s)) (hp : p.size = s.size) :
    Calls Try.prog 14 #[.string p, .pointer (some ⟨B, 0, none⟩)] w fun e w' => e = .returned (.bool false) ∧ w' = w := by
  have hq : ((p.size : Int) != (s.size : Int)) = false := by rw [bne_eq_false_iff_eq]; omega
  clear hp
  go_enter Try.func14, Try.ntmps14
  go_wp2_with fail
  go_ret
  exact ⟨rfl, rfl⟩

set_option maxHeartbeats 1000000 in
theorem indexFunc_none (v : Value) (P : List ByteArray) (s : ByteArray) (B : Nat) (w : World) (h : Tx w v P) (hl : P.length ≤ 16) (hB : w.cell? ⟨B, 1, none⟩ = some (.string s)) (hs : ∀ x ∈ P, x.size = s.size) :
    Calls Try.prog 33 #[v, .func (.func 14) #[] #[.pointer (some ⟨B, 0, none⟩)]] w fun e w' => e = .returned (.int .i64 (-1)) ∧ w' = w := by
  obtain ⟨a, c, rfl⟩ := h.slice
  have HX : Hid (Tx w (.slice a P.length c) P) := h
  have HC : Hid (∀ k, k < P.length → Calls Try.prog 14 #[.string (P.getD k ByteArray.empty), .pointer (some ⟨B, 0, none⟩)] w fun e w' => e = .returned (.bool false) ∧ w' = w) := fun k hk => clos_any _ s B w hB (hs _ (by
    rw [List.getD_eq_getElem?_getD, List.getElem?_eq_getElem hk]; exact List.getElem_mem hk))
  obtain ⟨N, hN⟩ : ∃ N, N = P.length := ⟨_, rfl⟩
  have HN : Hid (N = P.length) := hN
  rw [← hN] at HX HC hl ⊢
  clear hN h hs hB
  go_enter Try.func33, Try.ntmps33
  go_wp2_with fail
  go_loop [8] (fun i => ∃ k : Nat, k ≤ N ∧ i = .int .i64 k) (fun i => N - (intOf i).toNat)
  case atStart => exact ⟨0, by omega, rfl⟩
  case round =>
    obtain ⟨k, hk, rfl⟩ := hrel
    by_cases hlt : k < N
    · obtain ⟨bk, o, rfl, hbk, c0⟩ := HX.out.get k (by rw [← HN.out]; omega)
      have hc := HC.out k hlt
      generalize P.getD k ByteArray.empty = x at *
      go_wp2_with fail
      refine hc.mono ?_
      rintro e u ⟨rfl, hu⟩
      obtain rfl := hu.symm
      clear hu
      go_wp2_with fail
      go_round
      case rel => exact ⟨k + 1, by omega, by go_num⟩
      case measure => simp only [intOf]; omega
    · obtain rfl : k = N := by omega
      go_wp2_with fail
      go_ret
      exact ⟨rfl, rfl⟩

theorem containsFunc_none (v : Value) (P : List ByteArray) (s : ByteArray) (B : Nat) (w : World) (h : Tx w v P) (hl : P.length ≤ 16) (hB : w.cell? ⟨B, 1, none⟩ = some (.string s)) (hs : ∀ x ∈ P, x.size = s.size) :
    Calls Try.prog 13 #[v, .func (.func 14) #[] #[.pointer (some ⟨B, 0, none⟩)]] w fun e w' => e = .returned (.bool false) ∧ w' = w := by
  have hi := indexFunc_none v P s B w h hl hB hs
  obtain ⟨a, c, rfl⟩ := h.slice
  clear h hs hB
  go_enter Try.func13, Try.ntmps13
  go_wp2_with fail
  refine hi.mono ?_
  rintro e u ⟨rfl, hu⟩
  obtain rfl := hu.symm
  clear hu
  go_wp2_with fail
  go_ret
  exact ⟨rfl, rfl⟩
end Go.Proofs.Ytoeohnknpbdgdaa
