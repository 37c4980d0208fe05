/-
  Tokens as they lie in memory; what Check of package lz and Tokens of package lumref answer.
-/
import Derived.Test.YtgdkfaphbbdnbaaLzTok
namespace Go.Proofs.Ytgdkfaphbbdnbaa
open Go.RowKit
set_option maxRecDepth 4000

def tokC (t : Lz.Tr) : List Value := [.int .u8 t.lit.toNat, .int .i64 t.len, .int .i64 t.dist]
/-- tokens that lie in memory -/
structure Toks (w : World) (v : Value) (l : List Lz.Tr) : Prop where
  at_ : ((∃ a c, v = .slice a 0 c) ∧ l = []) ∨ ∃ bk o cap, v = .slice (some ⟨bk, o, none⟩) l.length cap ∧ bk < w.heap.size ∧
    ∀ j (hj : j < l.length), w.cell? ⟨bk, o + j * 3, none⟩ = some (.int .u8 l[j].lit.toNat) ∧ w.cell? ⟨bk, o + j * 3 + 1, none⟩ = some (.int .i64 l[j].len) ∧ w.cell? ⟨bk, o + j * 3 + 2, none⟩ = some (.int .i64 l[j].dist)
theorem Toks.slice {w : World} {v : Value} {l : List Lz.Tr} (h : Toks w v l) : ∃ a c, v = .slice a l.length c := by
  rcases h.at_ with ⟨⟨a, c, rfl⟩, rfl⟩ | ⟨bk, o, cap, rfl, _⟩
  · exact ⟨_, _, rfl⟩
  · exact ⟨_, _, rfl⟩
theorem Toks.below {w w' : World} {v : Value} {l : List Lz.Tr} (h : Toks w v l) {B : Nat} (hB : w.heap.size ≤ B) (hb : Below B w w') : Toks w' v l := by
  rcases h.at_ with h | ⟨bk, o, cap, h1, h3, h4⟩
  · exact ⟨.inl h⟩
  · refine ⟨.inr ⟨bk, o, cap, h1, Nat.lt_of_lt_of_le h3 hb.size, fun j hj => ?_⟩⟩
    obtain ⟨e1, e2, e3⟩ := h4 j hj
    exact ⟨(hb.cell (p := ⟨bk, o + j * 3, none⟩) (Nat.lt_of_lt_of_le h3 hB)).trans e1, (hb.cell (p := ⟨bk, o + j * 3 + 1, none⟩) (Nat.lt_of_lt_of_le h3 hB)).trans e2, (hb.cell (p := ⟨bk, o + j * 3 + 2, none⟩) (Nat.lt_of_lt_of_le h3 hB)).trans e3⟩
/-- one of them -/
theorem Toks.get {w : World} {a : Option Addr} {n c : Nat} {l : List Lz.Tr} (h : Toks w (.slice a n c) l) (j : Nat) (hj : j < l.length) : ∃ bk o, a = some ⟨bk, o, none⟩ ∧ n = l.length ∧ bk < w.heap.size ∧
    w.cell? ⟨bk, o + j * 3, none⟩ = some (.int .u8 l[j].lit.toNat) ∧ w.cell? ⟨bk, o + j * 3 + 1, none⟩ = some (.int .i64 l[j].len) ∧ w.cell? ⟨bk, o + j * 3 + 2, none⟩ = some (.int .i64 l[j].dist) := by
  rcases h.at_ with ⟨_, rfl⟩ | ⟨bk, o, cap, h1, h3, h4⟩
  · simp at hj
  · simp at h1
    obtain ⟨rfl, rfl, rfl⟩ := h1
    exact ⟨bk, o, rfl, rfl, h3, h4 j hj⟩

namespace Lz
theorem chk_all {l : List Tr} (h : ¬ 4096 < l.length) (ha : ∀ j (hj : j < l.length), l[j].ok = true) : chk l = 0 := by
  unfold chk
  rw [if_neg h, if_pos]
  intro t ht
  obtain ⟨j, hj, rfl⟩ := List.getElem_of_mem ht
  exact of_decide_eq_true (ha j hj)
theorem chk_one {l : List Tr} (h : ¬ 4096 < l.length) (j : Nat) (hj : j < l.length) (ha : l[j].ok = false) : chk l = 4 := by
  unfold chk
  rw [if_neg h, if_neg]
  intro h2
  exact of_decide_eq_false ha (h2 _ (List.getElem_mem hj))
end Lz


set_option maxHeartbeats 400000 in
theorem rcheck_any (v : Value) (l : List Lz.Tr) (w : World) (h : Toks w v l) (hl : l.length ≤ 140737488351232) :
    Calls Try.prog 48 #[v] w fun e w' => e = .returned (.int .i64 (Lz.chk l)) ∧ Below w.heap.size w w' := by
  obtain ⟨a, c, rfl⟩ := h.slice
  by_cases hlen : 4096 < l.length
  · have HK : Hid (Lz.chk l = 2) := if_pos hlen
    go_enter Try.func48, Try.ntmps48
    go_wp2_with fail
    go_ret
    exact ⟨by rw [HK.out]; rfl, Below.refl _ _⟩
  · have HN : Hid (¬ 4096 < l.length) := hlen
    go_enter Try.func48, Try.ntmps48
    go_wp2_with fail
    go_loopw [10] (fun i wr => ∃ k : Nat, k ≤ l.length ∧ i = .int .i64 k ∧ Hid (∀ j (hj : j < l.length), j < k → l[j].ok = true) ∧ Below w.heap.size w wr) (fun i _ => l.length - (intOf i).toNat)
    case atStart => exact ⟨0, by omega, rfl, fun j _ h => by omega, Below.refl _ _⟩
    case round =>
      obtain ⟨k, hk, rfl, hall, hbel⟩ := hrel
      by_cases hlt : k < l.length
      · obtain ⟨bk, o, rfl, _, hbk, c0, c1, c2⟩ := (h.below (Nat.le_refl _) hbel).get k hlt
        have hf := form_any l[k]
        generalize ht : l[k] = t at *
        have HT : Hid (l[k] = t) := ht
        have hbs := hbel.size
        clear ht h
        unfold tokV at hf
        cases hb : t.ok with
        | true =>
          have HO : Hid (t.ok = true) := hb
          rw [hb] at hf
          clear hb
          go_wp2_with fail
          refine (hf _).mono ?_
          rintro e w2 ⟨rfl, hb2⟩
          clear hf
          have HB2 : Hid (Below w.heap.size w w2) := (hbel.alloc hbs _).trans (hb2.mono (by simp; omega))
          clear hb2 hbel
          go_wp2_with fail
          go_roundw
          case rel =>
            refine ⟨k + 1, by omega, by go_num, fun j hj hjk => ?_, HB2.out⟩
            by_cases e : j = k
            · subst e; rw [HT.out]; exact HO.out
            · exact hall.out j hj (by omega)
          case measure => simp only [intOf]; omega
        | false =>
          have HK : Hid (Lz.chk l = 4) := Lz.chk_one HN.out k hlt (by rw [HT.out]; exact hb)
          rw [hb] at hf
          clear hb
          go_wp2_with fail
          refine (hf _).mono ?_
          rintro e w2 ⟨rfl, hb2⟩
          clear hf
          have HB2 : Hid (Below w.heap.size w w2) := (hbel.alloc hbs _).trans (hb2.mono (by simp; omega))
          clear hb2 hbel
          go_wp2_with fail
          go_ret
          exact ⟨by rw [HK.out]; rfl, HB2.out⟩
      · have HK : Hid (Lz.chk l = 0) := Lz.chk_all HN.out fun j hj => hall.out j hj (by omega)
        go_wp2_with fail
        go_ret
        exact ⟨by rw [HK.out]; rfl, hbel⟩

set_option maxHeartbeats 1000000 in
theorem check_any (v : Value) (l : List Lz.Tr) (w : World) (h : Toks w v l) (hl : l.length ≤ 140737488351232) :
    Calls Try.prog 51 #[v] w fun e w' => e = .returned (.int .i64 (Lz.chk l)) ∧ Below w.heap.size w w' := by
  obtain ⟨a, c, rfl⟩ := h.slice
  by_cases hlen : 4096 < l.length
  · have HK : Hid (Lz.chk l = 2) := if_pos hlen
    go_enter Try.func51, Try.ntmps51
    go_wp2_with fail
    go_ret
    exact ⟨by rw [HK.out]; rfl, Below.refl _ _⟩
  · have HN : Hid (¬ 4096 < l.length) := hlen
    go_enter Try.func51, Try.ntmps51
    go_wp2_with fail
    go_loopw [10] (fun i wr => ∃ k : Nat, k ≤ l.length ∧ i = .int .i64 k ∧ Hid (∀ j (hj : j < l.length), j < k → l[j].ok = true) ∧ Below w.heap.size w wr) (fun i _ => l.length - (intOf i).toNat)
    case atStart => exact ⟨0, by omega, rfl, fun j _ h => by omega, Below.refl _ _⟩
    case round =>
      obtain ⟨k, hk, rfl, hall, hbel⟩ := hrel
      by_cases hlt : k < l.length
      · obtain ⟨bk, o, rfl, _, hbk, c0, c1, c2⟩ := (h.below (Nat.le_refl _) hbel).get k hlt
        have hf := letter_any l[k]
        have hf2 := copy_any l[k]
        generalize ht : l[k] = t at *
        have HT : Hid (l[k] = t) := ht
        have hbs := hbel.size
        clear ht h
        unfold tokV at hf hf2
        cases hb : t.isL with
        | true =>
          have HO : Hid (t.ok = true) := by show _ = _; rw [t.ok_or, hb]; rfl
          rw [hb] at hf
          clear hb
          go_wp2_with fail
          refine (hf _).mono ?_
          rintro e w2 ⟨rfl, hb2⟩
          clear hf hf2
          have HB2 : Hid (Below w.heap.size w w2) := (hbel.alloc hbs _).trans (hb2.mono (by simp; omega))
          clear hb2 hbel
          go_wp2_with fail
          go_roundw
          case rel =>
            refine ⟨k + 1, by omega, by go_num, fun j hj hjk => ?_, HB2.out⟩
            by_cases e : j = k
            · subst e; rw [HT.out]; exact HO.out
            · exact hall.out j hj (by omega)
          case measure => simp only [intOf]; omega
        | false =>
          rw [hb] at hf
          have HL : Hid (t.ok = t.isC) := by show _ = _; rw [t.ok_or, hb, Bool.false_or]
          clear hb
          go_wp2_with fail
          refine (hf _).mono ?_
          rintro e w2 ⟨rfl, hb2⟩
          clear hf
          have d0 := (hb2.cell (p := ⟨wr.heap.size, 0, none⟩) (by simp)).trans (show _ = some (.int .u8 t.lit.toNat) from by simp)
          have d1 := (hb2.cell (p := ⟨wr.heap.size, 1, none⟩) (by simp)).trans (show _ = some (.int .i64 t.len) from by simp)
          have d2 := (hb2.cell (p := ⟨wr.heap.size, 2, none⟩) (by simp)).trans (show _ = some (.int .i64 t.dist) from by simp)
          have hB2 := (hbel.alloc hbs _).trans (hb2.mono (by simp; omega))
          have hs2 := hB2.size
          clear hb2 hbel c0 c1 c2
          cases hb : t.isC with
          | true =>
            have HO : Hid (t.ok = true) := by show _ = _; rw [HL.out, hb]
            rw [hb] at hf2
            clear hb
            go_wp2_with fail
            refine (hf2 _).mono ?_
            rintro e w3 ⟨rfl, hb3⟩
            clear hf2
            have HB3 : Hid (Below w.heap.size w w3) := hB2.trans (hb3.mono hs2)
            clear hb3 hB2 d0 d1 d2
            go_wp2_with fail
            go_roundw
            case rel =>
              refine ⟨k + 1, by omega, by go_num, fun j hj hjk => ?_, HB3.out⟩
              by_cases e : j = k
              · subst e; rw [HT.out]; exact HO.out
              · exact hall.out j hj (by omega)
            case measure => simp only [intOf]; omega
          | false =>
            have HK : Hid (Lz.chk l = 4) := Lz.chk_one HN.out k hlt (by rw [HT.out, HL.out]; exact hb)
            rw [hb] at hf2
            clear hb
            go_wp2_with fail
            refine (hf2 _).mono ?_
            rintro e w3 ⟨rfl, hb3⟩
            clear hf2
            have HB3 : Hid (Below w.heap.size w w3) := hB2.trans (hb3.mono hs2)
            clear hb3 hB2 d0 d1 d2
            go_wp2_with fail
            go_ret
            exact ⟨by rw [HK.out]; rfl, HB3.out⟩
      · have HK : Hid (Lz.chk l = 0) := Lz.chk_all HN.out fun j hj => hall.out j hj (by omega)
        go_wp2_with fail
        go_ret
        exact ⟨by rw [HK.out]; rfl, hbel⟩
end Go.Proofs.Ytgdkfaphbbdnbaa
