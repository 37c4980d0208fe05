/-
  What checkList, Check, reachAll and Reach of package graph answer.
-/
import Derived.Test.YtoibiaikbgkbpaaGraphSaysOf
import Derived.Test.YtoibiaikbgkbpaaGrRa
namespace Go.Proofs.Ytoibiaikbgkbpaa
open Go.RowKit
set_option maxRecDepth 4000

set_option maxHeartbeats 1000000 in
theorem glist_any (v : Value) (l : List Int) (n : Nat) (w : World) (h : Ints w v l) (hl : l.length ≤ 9223372036854775807) :
    Calls Try.prog 18 #[v, .int .i64 64, .int .i64 n] w fun e w' => e = .returned (.int .i64 (Gr.pErr n l)) ∧ w' = w := by
  obtain ⟨a, c, rfl⟩ := h.slice
  by_cases h64 : 64 < l.length
  · have HE : Hid (Gr.pErr n l = 2) := if_pos h64
    go_enter Try.func18, Try.ntmps18
    go_wp2_with fail
    go_ret
    exact ⟨by rw [HE.out]; rfl, rfl⟩
  · have HE : Hid (Gr.pErr n l = if ∀ k ∈ l, 0 ≤ k ∧ k < (n : Int) then 0 else 1) := if_neg h64
    go_enter Try.func18, Try.ntmps18
    go_wp2_with fail
    go_loop [15] (fun i => ∃ k : Nat, k ≤ l.length ∧ i = .int .i64 k ∧ Hid (∀ j (hj : j < l.length), j < k → 0 ≤ l[j] ∧ l[j] < (n : Int))) (fun i => l.length - (intOf i).toNat)
    case atStart => exact ⟨0, by omega, rfl, fun j _ h => absurd h (by omega)⟩
    case round =>
      obtain ⟨k, hk, rfl, HZ⟩ := hrel
      by_cases hlt : k < l.length
      · obtain ⟨bk, o, rfl, -, hbk, c0⟩ := h.get k hlt
        by_cases hb : 0 ≤ l[k] ∧ l[k] < (n : Int)
        · have HN : Hid (∀ j (hj : j < l.length), j < k + 1 → 0 ≤ l[j] ∧ l[j] < (n : Int)) := fun j hj h2 => by
            by_cases e : j = k
            · subst e; exact hb
            · exact HZ.out j hj (by omega)
          clear HZ h HE
          generalize l[k] = t at *
          go_wp2_with fail
          go_round
          case rel => exact ⟨k + 1, by omega, by go_num, HN⟩
          case measure => simp only [intOf]; omega
        · have HF : Hid (Gr.pErr n l = 1) := by
            have : ¬ ∀ k ∈ l, 0 ≤ k ∧ k < (n : Int) := fun q => hb (q _ (List.getElem_mem hlt))
            exact HE.out.trans (if_neg this)
          clear HZ h HE
          generalize l[k] = t at *
          by_cases hb1 : t < 0
          · clear hb
            go_wp2_with fail
            go_ret
            exact ⟨by rw [HF.out]; rfl, rfl⟩
          · have hb2 : (n : Int) ≤ t := by omega
            clear hb
            go_wp2_with fail
            go_ret
            exact ⟨by rw [HF.out]; rfl, rfl⟩
      · obtain rfl : k = l.length := by omega
        have HF : Hid (Gr.pErr n l = 0) := by
          refine HE.out.trans (if_pos fun x hx => ?_)
          obtain ⟨j, hj, rfl⟩ := List.getElem_of_mem hx
          exact HZ.out j hj hj
        go_wp2_with fail
        go_ret
        exact ⟨by rw [HF.out]; rfl, rfl⟩

set_option maxHeartbeats 1000000 in
theorem gcheck_any (v : Value) (K : List (List Int)) (w : World) (h : Kz w v K) (hl : K.length ≤ 9223372036854775807) (hll : ∀ i, (Gr.kd K i).length ≤ 9223372036854775807) :
    Calls Try.prog 11 #[v] w fun e w' => e = .returned (.int .i64 (Gr.gErr K)) ∧ w' = w := by
  obtain ⟨a, c, rfl⟩ := h.slice
  by_cases h200 : 200 < K.length
  · have HE : Hid (Gr.gErr K = 2) := if_pos h200
    go_enter Try.func11, Try.ntmps11
    go_wp2_with fail
    go_ret
    exact ⟨by rw [HE.out]; rfl, rfl⟩
  · have HE : Hid (Gr.gErr K = Gr.gErrTo K K.length) := if_neg h200
    have HH : Hid (Kz w (.slice a K.length c) K) := h
    have HL : Hid (∀ i, (Gr.kd K i).length ≤ 9223372036854775807) := hll
    clear h hll
    go_enter Try.func11, Try.ntmps11
    go_wp2_with fail
    go_loop [11] (fun i => ∃ k : Nat, k ≤ K.length ∧ i = .int .i64 k ∧ Hid (∀ j, j < k → Gr.pErr K.length (Gr.kd K j) = 0)) (fun i => K.length - (intOf i).toNat)
    case atStart => exact ⟨0, by omega, rfl, fun j h => absurd h (by omega)⟩
    case round =>
      obtain ⟨k, hk, rfl, HZ⟩ := hrel
      by_cases hlt : k < K.length
      · obtain ⟨bk, o, a', c', rfl, -, hbk, c0, hi⟩ := HH.out.get k hlt
        have hp := glist_any _ _ K.length w hi (HL.out k)
        by_cases hz : Gr.pErr K.length (Gr.kd K k) = 0
        · have HN : Hid (∀ j, j < k + 1 → Gr.pErr K.length (Gr.kd K j) = 0) := fun j hj => by
            by_cases e : j = k
            · subst e; exact hz
            · exact HZ.out j (by omega)
          rw [hz] at hp
          clear HZ HE hz hi
          generalize Gr.kd K k = L at *
          go_wp2_with fail
          refine hp.mono ?_
          rintro e w1 ⟨rfl, rfl⟩
          go_wp2_with fail
          go_round
          case rel => exact ⟨k + 1, by omega, by go_num, HN⟩
          case measure => simp only [intOf]; omega
        · have HF : Hid (Gr.gErr K = Gr.pErr K.length (Gr.kd K k)) := HE.out.trans (Gr.gErrTo_first HZ.out hz _ hlt)
          have hzq : (Gr.pErr K.length (Gr.kd K k) != 0) = true := by simpa using hz
          clear HZ HE hz hi
          obtain ⟨z, hz⟩ : ∃ z, z = Gr.pErr K.length (Gr.kd K k) := ⟨_, rfl⟩
          rw [← hz] at hp hzq HF
          clear hz
          generalize Gr.kd K k = L at *
          go_wp2_with fail
          refine hp.mono ?_
          rintro e w1 ⟨rfl, rfl⟩
          go_wp2_with fail
          go_ret
          exact ⟨by rw [HF.out]; rfl, rfl⟩
      · obtain rfl : k = K.length := by omega
        have HF : Hid (Gr.gErr K = 0) := HE.out.trans (Gr.gErrTo_ok _ HZ.out)
        go_wp2_with fail
        go_ret
        exact ⟨by rw [HF.out]; rfl, rfl⟩

set_option maxHeartbeats 4000000 in
/-- who is reached, of the things and of those that they reach -/
theorem greach_all (v : Value) (K : List (List Int)) (w : World) (h : Kz w v K) (hK : Gr.Ok K) : ∀ (d : Nat) (f : Nat → Bool) (u : Value) (T : List Int) (W : World), K.length < d + Gr.cnt f K.length → FR w W K.length f → Ints w u T → T.length ≤ 64 → (∀ k ∈ T, 0 ≤ k ∧ k < (K.length : Int)) →
    Calls Try.prog 19 #[.slice (some ⟨w.heap.size, 0, none⟩) K.length K.length, v, u] W fun e w' => e = .returned (.tuple #[]) ∧ ∃ g, Gr.Ra K f T g ∧ FR w w' K.length g := by
  intro d
  induction d with
  | zero => intro f u T W hd; exact absurd (Gr.cnt_le f K.length) (by omega)
  | succ d ih =>
    intro f u T W hd hF hi hT64 hTi
    obtain ⟨va, vc, rfl⟩ := h.slice
    obtain ⟨ua, uc, rfl⟩ := hi.slice
    have HF0 : Hid (∃ g, Gr.Ra K f (T.take 0) g ∧ FR w W K.length g) := ⟨f, Gr.ra_nil K f, hF⟩
    have HH : Hid (Kz w (.slice va K.length vc) K) := h
    have HI : Hid (Ints w (.slice ua T.length uc) T) := hi
    have HTi : Hid (∀ k ∈ T, 0 ≤ k ∧ k < (K.length : Int)) := hTi
    have HKi : Hid (∀ i, i < K.length → (Gr.kd K i).length ≤ 64 ∧ ∀ k ∈ Gr.kd K i, 0 ≤ k ∧ k < (K.length : Int)) := hK.kids
    have hn200 := hK.few
    have HIH : Hid (∀ (f : Nat → Bool) (u : Value) (T : List Int) (W : World), K.length < d + Gr.cnt f K.length → FR w W K.length f → Ints w u T → T.length ≤ 64 → (∀ k ∈ T, 0 ≤ k ∧ k < (K.length : Int)) →
      Calls Try.prog 19 #[.slice (some ⟨w.heap.size, 0, none⟩) K.length K.length, .slice va K.length vc, u] W fun e w' => e = .returned (.tuple #[]) ∧ ∃ g, Gr.Ra K f T g ∧ FR w w' K.length g) := ih
    have HD : Hid (K.length < d + 1 + Gr.cnt f K.length) := hd
    clear h hi hTi hK ih hd hF
    go_enter Try.func19, Try.ntmps19
    go_wp2_with fail
    go_loopw [10] (fun i wr => ∃ m : Nat, m ≤ T.length ∧ i = .int .i64 m ∧ Hid (∃ g, Gr.Ra K f (T.take m) g ∧ FR w wr K.length g)) (fun i _ => T.length - (intOf i).toNat)
    case atStart => exact ⟨0, by omega, rfl, HF0⟩
    case round =>
      obtain ⟨m, hm, rfl, HG⟩ := hrel
      obtain ⟨g, hg1, hg2⟩ := HG.out
      clear HG
      by_cases hlt : m < T.length
      · obtain ⟨bk, o, rfl, -, hbk, c0⟩ := HI.out.get m hlt
        have c1 := (hg2.bel.cell (p := ⟨bk, o + m, none⟩) hbk).trans c0
        have hb := HTi.out _ (List.getElem_mem hlt)
        obtain ⟨k, hk⟩ : ∃ k : Nat, T[m] = (k : Int) := ⟨T[m].toNat, by omega⟩
        have hkn : k < K.length := by omega
        have hki : (k : Int) < (K.length : Int) := by omega
        have x1 := hg2.at_ hkn
        have x2 := hg2.fz k
        rw [hk] at c1
        cases hz : g k with
        | true =>
          have HN : Hid (∃ g, Gr.Ra K f (T.take (m + 1)) g ∧ FR w wr K.length g) := ⟨g, Gr.ra_had hlt hg1 (by rw [hk, Int.toNat_natCast]; exact hz), hg2⟩
          rw [hz] at x1
          clear hg1 hg2 hz hk hb c0
          go_wp2_with fail
          go_roundw
          case rel => exact ⟨m + 1, by omega, by go_num, HN⟩
          case measure => simp only [intOf]; omega
        | false =>
          obtain ⟨b2, o2, ka, kc, rfl, -, hb2, d0, hki2⟩ := HH.out.get k hkn
          have hG2 : FR w (wr.setCell ⟨w.heap.size, k, none⟩ (.bool true)) K.length (Gr.up g k) := hg2.set k true fun i _ => rfl
          have d1 := (hG2.bel.cell (p := ⟨b2, o2 + k, none⟩) hb2).trans d0
          have hcnt := Gr.cnt_up hg1.mono hkn hz
          have HC := HIH.out (Gr.up g k) (.slice ka (Gr.kd K k).length kc) (Gr.kd K k) (wr.setCell ⟨w.heap.size, k, none⟩ (.bool true)) (by have := HD.out; omega) hG2 hki2 (HKi.out k hkn).1 (HKi.out k hkn).2
          have HN : Hid (∀ r W, Gr.Ra K (Gr.up g k) (Gr.kd K k) r → FR w W K.length r → ∃ g, Gr.Ra K f (T.take (m + 1)) g ∧ FR w W K.length g) := fun r W hr hW => ⟨r, Gr.ra_new hlt hk hg1 hr, hW⟩
          rw [hz] at x1
          have hL64 := (HKi.out k hkn).1
          clear hg1 hg2 hz hk hb c0 hG2 d0 hki2 hcnt
          generalize Gr.up g k = f2 at *
          generalize Gr.kd K k = L at *
          go_wp2_with fail
          refine HC.mono ?_
          rintro e w2 ⟨rfl, r, hr1, hr2⟩
          have HN2 : Hid (∃ g, Gr.Ra K f (T.take (m + 1)) g ∧ FR w w2 K.length g) := HN.out r w2 hr1 hr2
          clear HC hr1 hr2 HN
          go_wp2_with fail
          go_roundw
          case rel => exact ⟨m + 1, by omega, by go_num, HN2⟩
          case measure => simp only [intOf]; omega
      · obtain rfl : m = T.length := by omega
        rw [List.take_length] at hg1
        have HN : Hid (∃ g, Gr.Ra K f T g ∧ FR w wr K.length g) := ⟨g, hg1, hg2⟩
        clear hg1 hg2
        go_wp2_with fail
        go_end0
        exact ⟨rfl, HN.out⟩

end Go.Proofs.Ytoibiaikbgkbpaa
