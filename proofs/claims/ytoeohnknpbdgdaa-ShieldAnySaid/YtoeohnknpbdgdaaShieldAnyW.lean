/-
  The walk of lumkeep.ShieldAny: it returns true.
-/
import Derived.Test.YtoeohnknpbdgdaaShAnyM
import Derived.Test.YtoeohnknpbdgdaaWf32
namespace Go.Proofs.Ytoeohnknpbdgdaa
open Go.RowKit
set_option maxRecDepth 4000

def abP : List ByteArray := [⟨#[97]⟩, ⟨#[98]⟩]
theorem ab_tx (w : World) : Tx (w.alloc (.cells #[.string ⟨#[97]⟩, .string ⟨#[98]⟩] 9)) (.slice (some ⟨w.heap.size, 0, none⟩) 2 2) abP := by
  refine ⟨.inr ⟨w.heap.size, 0, 2, rfl, by simp, fun j hj => ?_⟩⟩
  have hj : j < 2 := hj
  match j, hj with
  | 0, _ => simp [abP]
  | 1, _ => simp [abP]
theorem ab_ok : gErr abP 1 = 0 := by decide +kernel
/-- shards of two small parts -/
theorem ab_shards (w : World) (b : Nat) (hb : b < 18446744073709551616) : Calls Try.prog 15 #[.slice (some ⟨w.heap.size, 0, none⟩) 2 2, .int .i64 1, .int .u64 b] (w.alloc (.cells #[.string ⟨#[97]⟩, .string ⟨#[98]⟩] 9)) fun e w' => ∃ u, e = .returned (.tuple #[u, .bool true]) ∧ w'.ownsRow w.heap.size 33 2 u 3 (rowS (shs abP b 3)) ∧ Below w.heap.size w w' :=
  (shards_ok _ abP 1 b _ (ab_tx w) ab_ok hb).mono fun e w' ⟨u, h1, h2, h3⟩ => ⟨u, h1, own_lower h2 (by simp), ((Below.refl _ w).alloc (Nat.le_refl _) _).trans (h3.mono (by simp))⟩

set_option maxHeartbeats 1000000 in
theorem shieldAny_bad (v : Value) (P : List ByteArray) (p b : Int) (w : World) (h : Tx w v P) (hl : P.length ≤ 140737488351232) (he : gErr P p ≠ 0) :
    Calls Try.prog 5 #[v, .int .i64 p, .int .u64 b] w fun e w' => e = .returned (.bool true) ∧ Below w.heap.size w w' := by
  have h1 := ab_shards w 5 (by omega)
  have h2 : ∀ W, Below w.heap.size w W → _ := fun W hW => shards_bad v P p b W (h.below hW) hl he
  obtain ⟨a, c, rfl⟩ := h.slice
  clear h he
  go_enter Try.func5, Try.ntmps5
  go_wp2_with fail
  refine h1.mono ?_
  rintro e w1 ⟨u, rfl, hown, hb⟩
  obtain ⟨ua, uc, rfl⟩ := own_len hown
  have h2' := h2 w1 hb
  have HB : Hid (Below w.heap.size w w1) := hb
  clear hb h1 h2 hown
  go_wp2_with fail
  refine h2'.mono ?_
  rintro e w2 ⟨rfl, hu⟩
  obtain rfl := hu.symm
  clear hu h2'
  go_wp2_with fail
  go_ret
  exact ⟨rfl, HB.out⟩

set_option maxHeartbeats 4000000 in
theorem shieldAny_ok (v : Value) (P : List ByteArray) (p b : Nat) (w : World) (h : Tx w v P) (he : gErr P p = 0) (hb64 : b < 18446744073709551616) :
    Calls Try.prog 5 #[v, .int .i64 p, .int .u64 b] w fun e w' => e = .returned (.bool true) ∧ Below w.heap.size w w' := by
  obtain ⟨hP, hP2, hp, hp2, hs⟩ := gErr_zero he
  have h1 := ab_shards w 5 (by omega)
  have h2 : ∀ W, Below w.heap.size w W → _ := fun W hW => shards_ok v P p b W (h.below hW) he hb64
  have HX : Hid (Tx w v P) := h
  have HmE := mErr_shs he (b := b)
  have hsl := shs_length P b (P.length + p)
  have HCn : Hid (∀ k, Fd.cnt (hasF (shs P b (P.length + p))) k ≤ k) := fun k => by have := Fd.cnt_lost (hasF (shs P b (P.length + p))) k; omega
  -- too few
  have HBad : Hid (Fd.cnt (hasF (shs P b (P.length + p))) (P.length + p) < P.length → ∀ (u : Value) W, Sx W u (shs P b (P.length + p)) → Calls Try.prog 10 #[u, .int .i64 P.length] W fun e w' => e = .returned (.tuple #[.slice none 0 0, .int .i64 7]) ∧ Below W.heap.size W w') := fun hc u W hS => by
    rw [if_pos hc] at HmE
    have := mend_bad u _ P.length W hS (by rw [hsl]; omega) (by rw [HmE]; decide)
    rw [HmE] at this
    exact this
  -- enough
  have HOk : Hid (¬ Fd.cnt (hasF (shs P b (P.length + p))) (P.length + p) < P.length → (∀ (u : Value) W, Sx W u (shs P b (P.length + p)) → Calls Try.prog 10 #[u, .int .i64 P.length] W fun e w' => ∃ x, e = .returned (.tuple #[x, .int .i64 0]) ∧ Tx w' x P ∧ Below W.heap.size W w') ∧ ∀ (u : Value) W, Sx W u (shs P b (P.length + p)) → Calls Try.prog 12 #[u, .int .i64 P.length] W fun e w' => e = .returned (.int .i64 0) ∧ Below W.heap.size W w') := fun hc => by
    rw [if_neg hc] at HmE
    have f := fine_of HmE
    refine ⟨fun u W hS => (mend_ok u _ P.length W hS HmE).mono fun e w' ⟨x, h1, h2, h3⟩ => ⟨x, h1, ?_, h3⟩, fun u W hS => (check_ok u _ P.length W hS HmE).mono fun e w' ⟨z, h1, h2, h3⟩ => ⟨by rw [h2, ckd_shs he f h1]; rfl, h3⟩⟩
    rw [mnd_shs he f] at h2
    exact Tx.of_own h2
  have HEq : Hid (∀ (x : Value) W, Tx W x P → Tx W v P → Calls Try.prog 16 #[x, v] W fun e w' => e = .returned (.bool true) ∧ Below W.heap.size W w') := fun x W h1 h2 => equal_txs x v P W h1 h2 (by omega)
  obtain ⟨a, c, rfl⟩ := h.slice
  clear h he hs HmE
  generalize hL : shs P b (P.length + p) = L at *
  clear hL
  obtain ⟨n, hn⟩ : ∃ n, n = P.length := ⟨_, rfl⟩
  rw [← hn] at h2 hP hP2 HX HBad HOk HEq hsl ⊢
  clear hn
  go_enter Try.func5, Try.ntmps5
  go_wp2_with fail
  refine h1.mono ?_
  rintro e w1 ⟨u, rfl, hown, hb⟩
  obtain ⟨ua, uc, rfl⟩ := own_len hown
  have h2' := h2 w1 hb
  have HB1 : Hid (Below w.heap.size w w1) := hb
  clear hb h1 h2 hown
  go_wp2_with fail
  refine h2'.mono ?_
  rintro e w2 ⟨u, rfl, hown, hb⟩
  obtain ⟨va, vc, rfl⟩ := own_len hown
  have HS2 : Hid (Sx w2 (.slice va (n + p) vc) L) := Sx.of_own (by rw [hsl]; exact hown)
  have HB2 : Hid (Below w.heap.size w w2) := HB1.out.trans (hb.mono HB1.out.size)
  have HSL : Hid (L.length = n + p) := hsl
  clear hb h2' hown HB1 hsl
  go_wp2_with fail
  go_loopw [11, 39] (fun mv i wr => ∃ k : Nat, k ≤ n + p ∧ i = .int .i64 k ∧ mv = .int .i64 (Fd.cnt (hasF L) k : Nat) ∧ Hid (Sx wr (.slice va (n + p) vc) L) ∧ Hid (Below w.heap.size w wr)) (fun _ i _ => n + p - (intOf i).toNat)
  case atStart => exact ⟨0, by omega, rfl, rfl, HS2, HB2⟩
  case round =>
    clear HS2 HB2
    obtain ⟨k, hk, rfl, rfl, HS, HB⟩ := hrel
    have hcn := HCn.out k
    by_cases hlt : k < n + p
    · obtain ⟨bk, o, rfl, hbk, c0, c1⟩ := HS.out.get k (by rw [HSL.out]; exact hlt)
      have HCk : Hid (Fd.cnt (hasF L) (k + 1) = Fd.cnt (hasF L) k + if (L.getD k Shd.none).has then 1 else 0) := rfl
      generalize L.getD k Shd.none = sd at *
      obtain ⟨hs1, sk⟩ := sd
      dsimp only at c0 c1 HCk
      have HSn : Hid (∀ ob, Sx (wr.alloc ob) (.slice (some ⟨bk, o, none⟩) (n + p) vc) L ∧ Below w.heap.size w (wr.alloc ob)) := fun ob => ⟨HS.out.below ((Below.refl _ _).alloc (Nat.le_refl _) _), HB.out.alloc HB.out.size _⟩
      clear HS HB HBad HOk
      generalize hcc : Fd.cnt (hasF L) k = cn at *
      clear hcc
      cases hs1 with
      | true =>
        have HC1 : Hid (Fd.cnt (hasF L) (k + 1) = cn + 1) := HCk.out
        clear HCk
        go_wp2_with fail
        go_roundw
        case rel => exact ⟨k + 1, by omega, by go_num, by rw [HC1.out]; go_num, (HSn.out _).1, (HSn.out _).2⟩
        case measure => simp only [intOf]; omega
      | false =>
        have HC1 : Hid (Fd.cnt (hasF L) (k + 1) = cn) := HCk.out
        clear HCk
        go_wp2_with fail
        go_roundw
        case rel => exact ⟨k + 1, by omega, by go_num, by rw [HC1.out], (HSn.out _).1, (HSn.out _).2⟩
        case measure => simp only [intOf]; omega
    · obtain rfl : k = n + p := by omega
      by_cases hc : Fd.cnt (hasF L) (n + p) < n
      · have hm := HBad.out hc _ wr HS.out
        generalize Fd.cnt (hasF L) (n + p) = cn at *
        clear HBad HOk
        go_wp2_with fail
        refine hm.mono ?_
        rintro e w3 ⟨rfl, hb⟩
        have HB3 : Hid (Below w.heap.size w w3) := HB.out.trans (hb.mono HB.out.size)
        clear hb hm
        go_wp2_with fail
        go_ret
        exact ⟨rfl, HB3.out⟩
      · obtain ⟨k1, k2⟩ := HOk.out hc
        have hm := k1 _ wr HS.out
        generalize Fd.cnt (hasF L) (n + p) = cn at *
        have hc' : ¬ (cn : Int) < (n : Int) := by omega
        have HK2 : Hid (∀ W, Sx W (.slice va (n + p) vc) L → Calls Try.prog 12 #[.slice va (n + p) vc, .int .i64 n] W fun e w' => e = .returned (.int .i64 0) ∧ Below W.heap.size W w') := fun W hW => k2 _ W hW
        clear HBad HOk k1 k2
        go_wp2_with fail
        refine hm.mono ?_
        rintro e w3 ⟨x, rfl, hx, hb⟩
        obtain ⟨xa, xc, rfl⟩ := hx.slice
        have hS3 := HS.out.below hb
        have hB3 := HB.out.trans (hb.mono HB.out.size)
        have heq := HEq.out _ w3 hx (HX.out.below hB3)
        have HS3 : Hid (Sx w3 (.slice va (n + p) vc) L) := hS3
        have HB3 : Hid (Below w.heap.size w w3) := hB3
        clear hb hm hx hS3 hB3 HS HB
        go_wp2_with fail
        refine heq.mono ?_
        rintro e w4 ⟨rfl, hb⟩
        have HB4 : Hid (Below w.heap.size w w4) := HB3.out.trans (hb.mono HB3.out.size)
        have hck := HK2.out w4 (HS3.out.below hb)
        clear hb heq HS3 HB3
        go_wp2_with fail
        refine hck.mono ?_
        rintro e w5 ⟨rfl, hb⟩
        have HB5 : Hid (Below w.heap.size w w5) := HB4.out.trans (hb.mono HB4.out.size)
        clear hb hck HB4
        go_wp2_with fail
        go_ret
        exact ⟨rfl, HB5.out⟩

theorem shieldAny_walk (v0 : Value) (l0 : List ByteArray) (a1 : Int) (a2 : Int) (z0 : l0.length ≤ 140737488351232) (_w1 : (Lit.int .i64 a1).wf = true) (w2 : (Lit.int .u64 a2).wf = true) (w : World) (t0 : Tx w v0 l0) :
    Calls Try.prog 5 #[v0, .int .i64 a1, .int .u64 a2] w fun e w' => e = .returned (.bool true) ∧ Below w.heap.size w w' := by
  by_cases he : gErr l0 a1 = 0
  · obtain ⟨p, rfl⟩ := Int.eq_ofNat_of_zero_le (a := a1) (by have := gErr_zero he; omega)
    have k2 : 0 ≤ a2 ∧ a2 < 18446744073709551616 := by
      have : 0 ≤ a2 ∧ a2 ≤ 18446744073709551615 := by simpa [Lit.wf, IntKind.min, IntKind.max, IntKind.signed, IntKind.bits] using w2
      omega
    obtain ⟨b, rfl⟩ := Int.eq_ofNat_of_zero_le (a := a2) k2.1
    exact shieldAny_ok v0 l0 p b w t0 he (by omega)
  · exact shieldAny_bad v0 l0 a1 a2 w t0 z0 he
end Go.Proofs.Ytoeohnknpbdgdaa
