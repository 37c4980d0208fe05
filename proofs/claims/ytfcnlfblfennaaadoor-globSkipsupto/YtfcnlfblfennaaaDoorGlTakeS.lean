/-
  P41: what spread and takes of package glob answer, for signs.
  P41: what takeAll of package glob answers, for signs and runes.
  P41: what a part of a pattern takes.
-/
import Derived.Test.YtfcnlfblfennaaaDoorGlRead
import Derived.Test.YtfcnlfblfennaaaDoorBrMem
import Derived.Test.YtfcnlfblfennaaaDoorGbTab
import Derived.Deep.RegionWith
namespace Go.Proofs.YtfcnlfblfennaaaDoor
open Go.RowKit
set_option maxRecDepth 4000

set_option maxHeartbeats 1000000 in
theorem spread_any (b n : Nat) (f : Nat → Bool) (w : World) (h : Br w b n f) (hn : n ≤ 4194304) :
    Calls Tryd.prog 45 #[.slice (some ⟨b, 0, none⟩) (n + 1) (n + 1)] w fun e w' => e = .returned (.tuple #[]) ∧ Br w' b n (Gb.row true f (fun _ => false)) ∧ Kept (fun k => k ≠ b) w w' := by
  have HB : Hid (Br w b n (fun j => if j < 1 then Gb.row true f (fun _ => false) j else f j)) := h.congr fun k _ => by
    cases k with
    | zero => simp [Gb.row]
    | succ k => simp
  clear h
  go_enter Tryd.func45, Tryd.ntmps45
  go_wp2_with fail
  go_loopw [2] (fun x wr => ∃ k : Nat, 1 ≤ k ∧ k ≤ n + 1 ∧ x = .int .i64 k ∧ Hid (Br wr b n (fun j => if j < k then Gb.row true f (fun _ => false) j else f j)) ∧ Hid (Kept (fun k => k ≠ b) w wr)) (fun x _ => n + 1 - (intOf x).toNat)
  case atStart => exact ⟨1, by omega, by omega, rfl, HB, Kept.refl _ _⟩
  case round =>
    clear HB
    obtain ⟨k, hk1, hk, rfl, HB, HK⟩ := hrel
    by_cases hlt : k < n + 1
    · obtain ⟨j, rfl⟩ : ∃ j, k = j + 1 := ⟨k - 1, by omega⟩
      have ck := HB.out.cell (show j + 1 ≤ n by omega)
      rw [if_neg (Nat.lt_irrefl _)] at ck
      have cj := HB.out.cell (show j ≤ n by omega)
      rw [if_pos (Nat.lt_succ_self j)] at cj
      have fk := HB.out.frozen (j + 1)
      have HN : Hid (∀ x, x = (f (j + 1) || Gb.row true f (fun _ => false) j) → Br (wr.setCell ⟨b, j + 1, none⟩ (.bool x)) b n (fun i => if i < j + 1 + 1 then Gb.row true f (fun _ => false) i else f i) ∧ Kept (fun k => k ≠ b) w (wr.setCell ⟨b, j + 1, none⟩ (.bool x))) := fun x hx => by
        refine ⟨(HB.out.set (j + 1) x).congr fun i hi => ?_, HK.out.setCell (by simp) _⟩
        by_cases e : i = j + 1
        · subst e
          rw [if_pos rfl, if_pos (Nat.lt_succ_self _), hx]
          simp [Gb.row]
        · rw [if_neg e]
          by_cases e2 : i < j + 1
          · rw [if_pos e2, if_pos (by omega)]
          · rw [if_neg e2, if_neg (by omega)]
      have q1 : ((j : Int) + 1) < (n : Int) + 1 := by omega
      have q2 : (j : Int) < (n : Int) + 1 := by omega
      clear HB HK
      generalize Gb.row true f (fun _ => false) j = r at *
      cases hf : f (j + 1) with
      | true =>
        rw [hf] at ck HN
        have HN2 := (show Hid _ from HN.out true rfl)
        clear HN
        go_wp2_with fail
        go_roundw
        case measure => simp only [intOf]; omega
        case rel => exact ⟨j + 1 + 1, by omega, by omega, by go_num, HN2.out.1, HN2.out.2⟩
      | false =>
        rw [hf] at ck HN
        have HN2 := (show Hid _ from HN.out r rfl)
        clear HN
        go_wp2_with fail
        go_roundw
        case measure => simp only [intOf]; omega
        case rel => exact ⟨j + 1 + 1, by omega, by omega, by go_num, HN2.out.1, HN2.out.2⟩
    · obtain rfl : k = n + 1 := by omega
      have HB9 : Hid (Br wr b n (Gb.row true f (fun _ => false))) := HB.out.congr fun j hj => by rw [if_pos (by omega)]
      clear HB
      go_wp2_with fail
      go_end0
      exact ⟨rfl, HB9.out, HK.out⟩
/-- a sign as a value -/
theorem smany_any (x y : Bool) (v : Value) (w : World) :
    Calls Tryd.prog 109 #[.agg #[.bool x, .bool y, v]] w fun e w' => e = .returned (.bool x) ∧ Below w.heap.size w w' := by
  go_enter Tryd.func109, Tryd.ntmps109
  go_wp2_with fail
  go_ret
  exact ⟨rfl, (Below.refl _ w).alloc (Nat.le_refl _) _⟩

set_option maxHeartbeats 2000000 in
theorem stakes_any (neg : Bool) (its : List (Nat × Nat)) (x : Bool) (v : Value) (c : Nat) (w : World) (h : Itm w v its) (hl : its.length ≤ 4194304) :
    Calls Tryd.prog 108 #[.agg #[.bool x, .bool neg, v], .int .i32 c] w fun e w' => e = .returned (.bool (Gb.one (neg, its) c)) ∧ Below w.heap.size w w' := by
  obtain ⟨a, k, rfl⟩ := h.slice
  obtain ⟨W0, hW0⟩ : ∃ W0, W0 = w.alloc (.cells #[.bool x, .bool neg, .slice a its.length k] 109) := ⟨_, rfl⟩
  have HB0 : Hid (Below w.heap.size w W0) := by rw [hW0]; exact (Below.refl _ w).alloc (Nat.le_refl _) _
  have HM0 : Hid (W0.heap[w.heap.size]? = some (.cells #[.bool x, .bool neg, .slice a its.length k] 109 (0, 0))) := by rw [hW0]; exact heap_alloc_new w _
  have HI : Hid (Itm W0 (.slice a its.length k) its) := h.below HB0.out
  have HS : Hid (((its.drop 0).any fun i => decide (i.1 ≤ c ∧ c ≤ i.2)) = its.any fun i => decide (i.1 ≤ c ∧ c ≤ i.2)) := rfl
  have HO : Hid (Gb.one (neg, its) c = ((its.any fun i => decide (i.1 ≤ c ∧ c ≤ i.2)) != neg)) := rfl
  obtain ⟨N, hN⟩ : ∃ N, N = its.length := ⟨_, rfl⟩
  have HN : Hid (N = its.length) := hN
  rw [← hN] at HI hl hW0 HM0 ⊢
  clear h hN
  generalize (its.any fun i => decide (i.1 ≤ c ∧ c ≤ i.2)) = A at *
  obtain ⟨b2, hb2⟩ : ∃ b2, b2 = w.heap.size := ⟨_, rfl⟩
  have HIx : Hid (b2 = w.heap.size) := hb2
  rw [← hb2] at HM0
  obtain ⟨m0, m1, m2, _⟩ := three_at HM0.out
  go_enter Tryd.func108, Tryd.ntmps108
  go_upto_region 1 with fail
  rw [← hW0, ← hb2]
  clear hW0 hb2
  go_wp2_with fail
  clear m0 m1 m2
  go_loopw [10] (fun i wr => ∃ k : Nat, k ≤ N ∧ i = .int .i64 k ∧ Hid (((its.drop k).any fun i => decide (i.1 ≤ c ∧ c ≤ i.2)) = A) ∧ Hid (Below W0.heap.size W0 wr)) (fun i _ => N - (intOf i).toNat)
  case atStart => exact ⟨0, by omega, rfl, HS, Below.refl _ _⟩
  case round =>
    clear HS
    obtain ⟨j, hj, rfl, HS, HB⟩ := hrel
    have hM := (HB.out.block _ (Array.getElem?_eq_some_iff.1 HM0.out).1).trans HM0.out
    have hlb : b2 < wr.heap.size := (Array.getElem?_eq_some_iff.1 hM).1
    obtain ⟨m0, m1, m2, _⟩ := three_at hM
    by_cases hlt : j < N
    · have hjl : j < its.length := by rw [← HN.out]; exact hlt
      obtain ⟨bk, o, cs, rfl, hbk, hcl, hR, hcell⟩ := (HI.out.below HB.out).get j its[j] (List.getElem?_eq_getElem hjl)
      have hR : cs = [Rv its[j].1, Rv its[j].2] := hR
      have d1 : wr.cell? ⟨bk, o + j * 2, none⟩ = some (Rv its[j].1) := hcell 0 _ (by rw [hR]; rfl)
      have d2 : wr.cell? ⟨bk, o + j * 2 + 1, none⟩ = some (Rv its[j].2) := hcell 1 _ (by rw [hR]; rfl)
      have HD : Hid (A = (decide (its[j].1 ≤ c ∧ c ≤ its[j].2) || ((its.drop (j + 1)).any fun i => decide (i.1 ≤ c ∧ c ≤ i.2)))) := by
        show _ = _
        rw [← HS.out, List.drop_eq_getElem_cons hjl, List.any_cons]
      clear hcell hR hcl HS hM
      generalize its[j].1 = p at *
      generalize its[j].2 = q at *
      unfold Rv at d1 d2
      by_cases q1 : p ≤ c
      · by_cases q2 : c ≤ q
        · have HZ : Hid (A = true) := by
            show _ = _
            rw [HD.out, decide_eq_true ⟨q1, q2⟩]; rfl
          clear HD
          go_wp2_with fail
          go_ret
          exact ⟨by rw [HO.out, HZ.out]; cases neg <;> rfl, HB0.out.trans ((HB.out.alloc HB.out.size _).mono HB0.out.size)⟩
        · have HZ : Hid (((its.drop (j + 1)).any fun i => decide (i.1 ≤ c ∧ c ≤ i.2)) = A) := by
            show _ = _
            rw [HD.out, decide_eq_false (fun q => q2 q.2), Bool.false_or]
          clear HD
          go_wp2_with fail
          go_roundw
          case rel => exact ⟨j + 1, by omega, by go_num, HZ, HB.out.alloc HB.out.size _⟩
          case measure => simp only [intOf]; omega
      · have HZ : Hid (((its.drop (j + 1)).any fun i => decide (i.1 ≤ c ∧ c ≤ i.2)) = A) := by
          show _ = _
          rw [HD.out, decide_eq_false (fun q => q1 q.1), Bool.false_or]
        clear HD
        go_wp2_with fail
        go_roundw
        case rel => exact ⟨j + 1, by omega, by go_num, HZ, HB.out.alloc HB.out.size _⟩
        case measure => simp only [intOf]; omega
    · obtain rfl : j = N := by omega
      have HZ : Hid (A = false) := by
        have := HS.out
        rw [List.drop_eq_nil_of_le (by rw [← HN.out]; omega)] at this
        exact this.symm
      clear HS
      go_wp2_with fail
      go_ret
      exact ⟨by rw [HO.out, HZ.out]; cases neg <;> rfl, HB0.out.trans (HB.out.mono HB0.out.size)⟩
end Go.Proofs.YtfcnlfblfennaaaDoor

namespace Go.Proofs.YtfcnlfblfennaaaDoor
open Go.RowKit

namespace Gb
section
variable {α β : Type}
/-- what the table asks -/
def anyOf (p : List (Option β)) (i : Nat) : Bool := (p.getD i none).isNone
def oneOf (f : β → α → Bool) (p : List (Option β)) (l : List α) (i k : Nat) : Bool :=
  match p.getD i none, l[k]? with
  | some b, some a => f b a
  | _, _ => false
theorem tab_of (f : β → α → Bool) (p : List (Option β)) (l : List α) : tab (anyOf p) (oneOf f p l) p.length l.length = fit f p l :=
  tab_fit f l p _ _ (fun i x h => by simp [anyOf, List.getD_eq_getElem?_getD, h]) (fun i k b a h1 h2 => by simp [oneOf, List.getD_eq_getElem?_getD, h1, h2])
end
end Gb
theorem Gb.row_true (f g h : Nat → Bool) : ∀ k, Gb.row true f g k = Gb.row true f h k
  | 0 => rfl
  | k + 1 => by simp only [Gb.row, if_true, Gb.row_true f g h k]
theorem upon_eq {P : Program} {o : Oper} {a : Act} {K : Act → World → Prop} {Q : Exit → Act → World → Prop} {r r' : Result Next} (h : r = r') (g : Oper.upon P o a K Q r') : Oper.upon P o a K Q r := h ▸ g
/-- signs of few items -/
def FewS (m : List (Option Gb.Tst)) : Prop := ∀ t, some t ∈ m → t.2.length ≤ 4194304

set_option maxHeartbeats 4000000 in
set_option maxRecDepth 10000 in
theorem takeS_any (vl vt : Value) (m : List (Option Gb.Tst)) (cs : List Nat) (w : World) (hm : Sgs w vl m) (hf : FewS m) (hml : m.length ≤ 4194304) (ht : Rn w vt cs) (hcl : cs.length ≤ 4194304) :
    Calls Tryd.prog 106 #[vl, vt] w fun e w' => e = .returned (.bool (Gb.fit Gb.one m cs)) ∧ Below w.heap.size w w' := by
  have HT : Hid (Gb.tab (Gb.anyOf m) (Gb.oneOf Gb.one m cs) m.length cs.length = Gb.fit Gb.one m cs) := Gb.tab_of _ _ _
  generalize Gb.fit Gb.one m cs = ANS at *
  obtain ⟨al, cl, rfl⟩ := hm.slice
  obtain ⟨at_, ct, rfl⟩ := ht.slice
  have HM : Hid (Sgs w (.slice al m.length cl) m) := hm
  have HR : Hid (Rn w (.slice at_ cs.length ct) cs) := ht
  have HF : Hid (FewS m) := hf
  obtain ⟨n, hn⟩ : ∃ n, n = cs.length := ⟨_, rfl⟩
  have HN : Hid (n = cs.length) := hn
  rw [← hn] at HR hcl HT ⊢
  obtain ⟨N, hN⟩ : ∃ N, N = m.length := ⟨_, rfl⟩
  have HNm : Hid (N = m.length) := hN
  rw [← hN] at HM hml HT ⊢
  obtain ⟨any, hany⟩ : ∃ any, any = Gb.anyOf m := ⟨_, rfl⟩
  obtain ⟨one, hone⟩ : ∃ one, one = Gb.oneOf Gb.one m cs := ⟨_, rfl⟩
  have HAny : Hid (any = Gb.anyOf m) := hany
  have HOne : Hid (one = Gb.oneOf Gb.one m cs) := hone
  rw [← hany, ← hone] at HT
  clear hm ht hf hn hN hany hone
  obtain ⟨i0, hi, hz0, hz1, hz2⟩ := info_is info_bool
  go_enter Tryd.func106, Tryd.ntmps106
  go_wp2_with (at_make; refine wpList_make_full _ rfl (.tmp 11) (.tmp 11) 80 rfl w.heap.size 4 i0 (.bool false) 1 Tryd.underlying80 hi hz0 hz1 .i64 .i64 _ _ (n + 1) rfl rfl (by omega) (by omega) (by rw [hz2]; omega) (by unfold maxLen; omega) (Nat.le_refl _) ?_; intro w1 hown hgrow; have hn0 : (0 : Int) < (n : Int) + 1 := (by omega); have hb0 := Br.made hown; have c0 : w1.cell? ⟨w.heap.size, 0, none⟩ = some (.bool false) := (hb0.cell (Nat.zero_le n)); have f0 := hb0.frozen 0)
  have HB1 : Hid (Below w.heap.size w w1) := (Below.refl _ _).grown hgrow (Nat.le_refl _) (fun k hk => by cases hk)
  clear hown hgrow
  have HBr : Hid (Br (w1.setCell ⟨w.heap.size, 0, none⟩ (.bool true)) w.heap.size n (Gb.tab any one 0)) := (hb0.set 0 true).congr fun k _ => by
    show (if k = 0 then true else false) = (k == 0)
    cases k <;> rfl
  have HBs : Hid (Below w.heap.size w (w1.setCell ⟨w.heap.size, 0, none⟩ (.bool true))) := below_set HB1.out (Nat.le_refl _) _ _
  clear hb0 c0 f0
  generalize w1.setCell _ _ = w2 at HBr HBs ⊢
  generalize hbe : w.heap.size = b at *
  have HBe : Hid (w.heap.size = b) := hbe
  clear hbe HB1
  go_loopw [17] (fun x wr => ∃ i : Nat, i ≤ N ∧ x = .int .i64 i ∧ Hid (Br wr b n (Gb.tab any one i)) ∧ Hid (Below b w wr)) (fun x _ => N - (intOf x).toNat)
  case atStart => exact ⟨0, by omega, rfl, HBr, HBs⟩
  case round =>
    clear HBr HBs
    obtain ⟨i, his, rfl, HBr, HBs⟩ := hrel
    by_cases hlt : i < N
    · have him : i < m.length := by rw [← HNm.out]; exact hlt
      have hBw : Below w.heap.size w wr := by rw [HBe.out]; exact HBs.out
      obtain ⟨bk, o, c3, rfl, hbk, hl3, hR, hcell⟩ := (Sgs.below HM.out hBw).get i m[i] (List.getElem?_eq_getElem him)
      have hp : m.getD i none = m[i] := by rw [List.getD_eq_getElem?_getD, List.getElem?_eq_getElem him]; rfl
      cases hmi : m[i] with
      | none =>
        rw [hmi] at hR hp
        obtain ⟨y, as_, ks, qs, rfl⟩ := hR
        have d0 : wr.cell? ⟨bk, o + i * 3, none⟩ = some (.bool true) := hcell 0 _ rfl
        have d1 : wr.cell? ⟨bk, o + i * 3 + 1, none⟩ = some (.bool y) := hcell 1 _ rfl
        have d2 : wr.cell? ⟨bk, o + i * 3 + 2, none⟩ = some (.slice as_ ks qs) := hcell 2 _ rfl
        clear hcell hl3 hmi
        go_wp2_with fail
        refine upon_eq (r' := .ok (.enter 109 #[.agg #[.bool true, .bool y, .slice as_ ks qs]]) (wr.alloc (.cells #[.bool true, .bool y, .slice as_ ks qs] 109))) (by kernel_rfl) ?_
        refine (smany_any true y (.slice as_ ks qs) _).mono ?_
        rintro e w3 ⟨rfl, b3⟩
        have hB3 : Below wr.heap.size wr w3 := ((Below.refl _ wr).alloc (Nat.le_refl _) _).trans (b3.mono (by simp))
        have hBr3 := HBr.out.below hB3
        have HBs3 : Hid (Below b w w3) := HBs.out.trans (hB3.mono (by have := HBs.out.size; have := HBe.out; omega))
        have hsp := spread_any b n _ w3 hBr3 hcl
        have HBb : Hid (b < w3.heap.size) := hBr3.lt
        have HAn : Hid (any i = true) := by
          show _ = _
          rw [HAny.out, Gb.anyOf, hp]; rfl
        clear b3 hB3 d0 d1 d2
        go_wp2_with fail
        refine hsp.mono ?_
        rintro e w4 ⟨rfl, hBr4, hk4⟩
        have HBr4 : Hid (Br w4 b n (Gb.tab any one (i + 1))) := hBr4.congr fun k _ => by
          show _ = Gb.row (any i) (Gb.tab any one i) (one i) k
          rw [HAn.out]
          exact Gb.row_true _ _ _ k
        have HBs4 : Hid (Below b w w4) := HBs3.out.trans (hk4.below (Nat.le_of_lt HBb.out) fun k hk => by omega)
        clear hsp hBr4 hk4 hBr3 HBr HBs HBs3
        go_wp2_with fail
        go_roundw
        case measure => simp only [intOf]; omega
        case rel => exact ⟨i + 1, by omega, by go_num, HBr4, HBs4⟩
      | some t =>
        rw [hmi] at hR hp
        obtain ⟨s, rfl, hIt⟩ := hR
        obtain ⟨as_, qs, rfl⟩ := hIt.slice
        obtain ⟨ks, hks⟩ : ∃ ks, ks = t.2.length := ⟨_, rfl⟩
        rw [← hks] at hIt hcell
        have HLt : Hid (t.2.length ≤ 4194304) := HF.out t (by rw [← hmi]; exact List.getElem_mem him)
        have d0 : wr.cell? ⟨bk, o + i * 3, none⟩ = some (.bool false) := hcell 0 _ rfl
        have d1 : wr.cell? ⟨bk, o + i * 3 + 1, none⟩ = some (.bool t.1) := hcell 1 _ rfl
        have d2 : wr.cell? ⟨bk, o + i * 3 + 2, none⟩ = some (.slice as_ ks qs) := hcell 2 _ rfl
        clear hcell hl3 hmi hks
        go_wp2_with fail
        refine upon_eq (r' := .ok (.enter 109 #[.agg #[.bool false, .bool t.1, .slice as_ ks qs]]) (wr.alloc (.cells #[.bool false, .bool t.1, .slice as_ ks qs] 109))) (by kernel_rfl) ?_
        refine (smany_any false t.1 (.slice as_ ks qs) _).mono ?_
        rintro e w3 ⟨rfl, b3⟩
        have hB3 : Below wr.heap.size wr w3 := ((Below.refl _ wr).alloc (Nat.le_refl _) _).trans (b3.mono (by simp))
        have HBx : Hid (w3.heap[wr.heap.size]? = some (.cells #[.bool false, .bool t.1, .slice as_ ks qs] 109 (0, 0))) := (b3.block _ (by simp)).trans (heap_alloc_new wr _)
        have HBr3 : Hid (Br w3 b n (fun j => if n < j then Gb.row false (Gb.tab any one i) (one i) j else Gb.tab any one i j)) := (HBr.out.below hB3).congr fun k hk => by rw [if_neg (by omega)]
        have HBs3 : Hid (Below b w w3) := HBs.out.trans (hB3.mono (by have := HBs.out.size; have := HBe.out; omega))
        have HI3 : Hid (Itm w3 (.slice as_ ks qs) t.2) := hIt.below hB3
        have HR3 : Hid (Rn w3 (.slice at_ n ct) cs) := HR.out.below (by rw [HBe.out]; exact HBs3.out)
        have HAn : Hid (any i = false) := by
          show _ = _
          rw [HAny.out, Gb.anyOf, hp]; rfl
        have HOn : Hid (∀ k x, cs[k]? = some x → one i k = Gb.one t x) := fun k x hx => by
          rw [HOne.out, Gb.oneOf, hp, hx]
        have HBl : Hid (b < wr.heap.size) := HBr.out.lt
        generalize hbx : wr.heap.size = bx at *
        clear b3 hB3 d0 d1 d2 HBr HBs hBw hIt hbx
        go_wp2_with fail
        go_loopw [8] (fun x wq => ∃ k : Nat, k ≤ n ∧ x = .int .i64 k ∧ Hid (Br wq b n (fun j => if k < j then Gb.row false (Gb.tab any one i) (one i) j else Gb.tab any one i j)) ∧ Hid (Kt 4 w3 wq) ∧ Hid (Below b w wq)) (fun x _ => (intOf x).toNat)
        case atStart => exact ⟨n, Nat.le_refl _, rfl, HBr3, Kt.refl _ _, HBs3⟩
        case round =>
          clear HBr3 HBs3
          obtain ⟨k, hk, rfl, HBr, HKt, HBs⟩ := hrel
          cases k with
          | zero =>
            have c0 := HBr.out.cell (Nat.zero_le n)
            have f0 := HBr.out.frozen 0
            have hn0 : (0 : Int) < (n : Int) + 1 := by omega
            have HBr4 : Hid (Br (wr.setCell ⟨b, 0, none⟩ (.bool false)) b n (Gb.tab any one (i + 1))) := (HBr.out.set 0 false).congr fun j hj => by
              show _ = Gb.row (any i) (Gb.tab any one i) (one i) j
              rw [HAn.out]
              cases j with
              | zero => rfl
              | succ j => rw [if_neg (by omega), if_pos (by omega)]
            have HBs4 : Hid (Below b w (wr.setCell ⟨b, 0, none⟩ (.bool false))) := HBs.out.setCell (p := ⟨b, 0, none⟩) (Nat.le_refl b) _
            clear HBr HBs HKt
            go_wp2_with fail
            go_roundw
            case measure => simp only [intOf]; omega
            case rel => exact ⟨i + 1, by omega, by go_num, HBr4, HBs4⟩
          | succ j =>
            have hjn : j < n := by omega
            have hjc : j < cs.length := by rw [← HN.out]; exact hjn
            have cj := HBr.out.cell (show j ≤ n by omega)
            rw [if_neg (by omega)] at cj
            have ck := HBr.out.cell (show j + 1 ≤ n by omega)
            have fk := HBr.out.frozen (j + 1)
            obtain ⟨bt, ot, rfl, hbt, _, ctj⟩ := (HR3.out.kt HKt.out (by decide)).get j hjc
            obtain ⟨x, hx⟩ : ∃ x, cs[j]? = some x := ⟨cs[j], List.getElem?_eq_getElem hjc⟩
            rw [List.getD_eq_getElem?_getD, hx, Option.getD_some] at ctj
            have HOx : Hid (one i j = Gb.one t x) := HOn.out j x hx
            have q1 : (j : Int) < (n : Int) + 1 := by omega
            have q2 : (j : Int) + 1 < (n : Int) + 1 := by omega
            have q3 : (j : Int) < (n : Int) := by omega
            have hblt := HBr.out.lt
            have HNx : Hid (∀ W y, Below wr.heap.size wr W → y = (Gb.tab any one i j && one i j) → Br (W.setCell ⟨b, j + 1, none⟩ (.bool y)) b n (fun k => if j < k then Gb.row false (Gb.tab any one i) (one i) k else Gb.tab any one i k) ∧ Kt 4 w3 (W.setCell ⟨b, j + 1, none⟩ (.bool y)) ∧ Below b w (W.setCell ⟨b, j + 1, none⟩ (.bool y))) := fun W y hW hy => by
              have hBW := HBr.out.below hW
              have hBW2 := hBW
              obtain ⟨cur, hcur, _⟩ := hBW2
              refine ⟨(hBW.set (j + 1) y).congr fun k hk => ?_, (HKt.out.trans (Kt.of_below hW)).trans (Kt.set hcur _ _), (HBs.out.trans (hW.mono (Nat.le_of_lt hblt))).setCell (p := ⟨b, j + 1, none⟩) (Nat.le_refl b) _⟩
              by_cases e : k = j + 1
              · subst e
                rw [if_pos rfl, if_pos (Nat.lt_succ_self j), hy]
                simp [Gb.row]
              · rw [if_neg e]
                by_cases e2 : j + 1 < k
                · rw [if_pos e2, if_pos (by omega)]
                · rw [if_neg e2, if_neg (by omega)]
            cases hT1 : Gb.tab any one i j with
            | false =>
              rw [hT1] at cj
              have HN2 : Hid _ := HNx.out wr.drew false (Below.refl _ _).drew (by rw [hT1]; rfl)
              clear HNx HBr HBs ctj
              go_wp2_with fail
              go_region
              go_wp2_with fail
              go_roundw
              case measure => simp only [intOf]; omega
              case rel => exact ⟨j, by omega, by go_num, HN2.out.1, HN2.out.2.1, HN2.out.2.2⟩
            | true =>
              rw [hT1] at cj
              have HCell : Hid (∀ W, Gw wr W → W.cell? ⟨b, j, none⟩ = some (.bool true)) := fun W hW => (Below.cell hW (p := ⟨b, j, none⟩) hblt).trans cj
              have hbxw := HKt.out.cell HBx.out (by decide)
              have HBox : Hid (∀ W, Gw wr W → W.cell? ⟨bx, 0, none⟩ = some (.bool false) ∧ W.cell? ⟨bx, 1, none⟩ = some (.bool t.1) ∧ W.cell? ⟨bx, 2, none⟩ = some (.slice as_ ks qs)) := fun W hW => by
                obtain ⟨x0, x1, x2, _⟩ := three_at ((Below.block hW bx (Array.getElem?_eq_some_iff.1 hbxw).1).trans hbxw)
                exact ⟨x0, x1, x2⟩
              have HTh : Hid (∀ W, Gw wr W → W.cell? ⟨bt, ot + j, none⟩ = some (.int .i32 x)) := fun W hW => (Below.cell hW (p := ⟨bt, ot + j, none⟩) hbt).trans ctj
              have HItm : Hid (∀ W, Gw wr W → Itm W (.slice as_ ks qs) t.2) := fun W hW => (Itm.kt HKt.out (by decide) HI3.out).below hW
              have HSt : Hid (∀ W, Gw wr W → (∃ q, W.cell? ⟨b, j + 1, none⟩ = some (.bool q)) ∧ W.frozen? ⟨b, j + 1, none⟩ = false) := fun W hW => ⟨⟨_, (HBr.out.below hW).cell (show j + 1 ≤ n by omega)⟩, (HBr.out.below hW).frozen _⟩
              have HN2 : Hid (∀ W, Below wr.heap.size wr W → _) := fun W hW => HNx.out W (Gb.one t x) hW (by rw [hT1, HOx.out]; rfl)
              have hwr : IntKind.i64.wrap (j : Int) = (j : Int) := by
                simp only [IntKind.wrap, IntKind.bits, IntKind.signed]
                simp
                omega
              have q4 : ¬ ((j : Int) + 1 < 0) := by omega
              clear HNx HBr HBs ctj cj ck fk HKt hbxw
              go_wp2_with fail
              refine wp_region_rel_tail (G := Gw) (W0 := wr) 18 6 Gw.refl Gw.trans (by kernel_rfl) (by decide) (by kernel_rfl) (by kernel_rfl) (.inr (by kernel_rfl)) (Below.refl _ wr).drew ?_
              refine .inl ⟨.slice (some ⟨b, 0, none⟩) (n + 1) (n + 1), fun v W hW hd => step_run rfl _ W (by clear hd; go_simp) rfl (Gw.refl _), ?_⟩
              simp only [Act.put, List.setIfInBounds_toArray, List.set_cons_zero, List.set_cons_succ]
              refine .inl ⟨.int .i64 ((j : Int) + 1), fun v W hW hd => step_run rfl _ W (by clear hd; go_simp) rfl (Gw.refl _), ?_⟩
              simp only [Act.put, List.setIfInBounds_toArray, List.set_cons_zero, List.set_cons_succ]
              refine .inl ⟨.slice (some ⟨b, 0, none⟩) (n + 1) (n + 1), fun v W hW hd => step_run rfl _ W (by clear hd; go_simp) rfl (Gw.refl _), ?_⟩
              simp only [Act.put, List.setIfInBounds_toArray, List.set_cons_zero, List.set_cons_succ]
              refine .inl ⟨.int .i64 ((j : Int) + 1), fun v W hW hd => step_run rfl _ W (by clear hd; go_simp) rfl (Gw.refl _), ?_⟩
              simp only [Act.put, List.setIfInBounds_toArray, List.set_cons_zero, List.set_cons_succ]
              refine .inl ⟨.int .i64 j, fun v W hW hd => step_run rfl _ W (by clear hd; go_simp) rfl (Gw.refl _), ?_⟩
              simp only [Act.put, List.setIfInBounds_toArray, List.set_cons_zero, List.set_cons_succ]
              refine .inl ⟨.pointer (some ⟨b, j, none⟩), fun v W hW hd => step_run rfl _ W (by clear hd; go_simp) rfl (Gw.refl _), ?_⟩
              simp only [Act.put, List.setIfInBounds_toArray, List.set_cons_zero, List.set_cons_succ]
              refine .inl ⟨.bool true, fun v W hW hd => step_run rfl _ W (by clear hd; have ce := HCell.out W hW; go_simp) rfl (Gw.refl _), ?_⟩
              simp only [Act.put, List.setIfInBounds_toArray, List.set_cons_zero, List.set_cons_succ]
              refine .inl ⟨.bool true, fun v W hW hd => step_run rfl _ W (by clear hd; go_simp) rfl (Gw.refl _), ?_⟩
              simp only [Act.put, List.setIfInBounds_toArray, List.set_cons_zero, List.set_cons_succ]
              refine .inl ⟨.agg #[.bool false, .bool t.1, .slice as_ ks qs], fun v W hW hd => step_run rfl _ W (by clear hd; obtain ⟨ce0, ce1, ce2⟩ := HBox.out W hW; go_simp) rfl (Gw.refl _), ?_⟩
              simp only [Act.put, List.setIfInBounds_toArray, List.set_cons_zero, List.set_cons_succ]
              refine .inl ⟨.iface 109 (.agg #[.bool false, .bool t.1, .slice as_ ks qs]), fun v W hW hd => step_run rfl _ W (by clear hd; go_simp) rfl (Gw.refl _), ?_⟩
              simp only [Act.put, List.setIfInBounds_toArray, List.set_cons_zero, List.set_cons_succ]
              refine .inl ⟨.slice (some ⟨bt, ot, none⟩) n ct, fun v W hW hd => step_run rfl _ W (by clear hd; go_simp) rfl (Gw.refl _), ?_⟩
              simp only [Act.put, List.setIfInBounds_toArray, List.set_cons_zero, List.set_cons_succ]
              refine .inl ⟨.int .i64 ((j : Int) + 1), fun v W hW hd => step_run rfl _ W (by clear hd; go_simp) rfl (Gw.refl _), ?_⟩
              simp only [Act.put, List.setIfInBounds_toArray, List.set_cons_zero, List.set_cons_succ]
              refine .inl ⟨.int .i64 j, fun v W hW hd => step_run rfl _ W (by clear hd; go_simp) rfl (Gw.refl _), ?_⟩
              simp only [Act.put, List.setIfInBounds_toArray, List.set_cons_zero, List.set_cons_succ]
              refine .inl ⟨.pointer (some ⟨bt, ot + j, none⟩), fun v W hW hd => step_run rfl _ W (by clear hd; go_simp) rfl (Gw.refl _), ?_⟩
              simp only [Act.put, List.setIfInBounds_toArray, List.set_cons_zero, List.set_cons_succ]
              refine .inl ⟨.int .i32 x, fun v W hW hd => step_run rfl _ W (by clear hd; have ce := HTh.out W hW; go_simp) rfl (Gw.refl _), ?_⟩
              simp only [Act.put, List.setIfInBounds_toArray, List.set_cons_zero, List.set_cons_succ]
              refine .inl ⟨.bool (Gb.one t x), fun v W hW _ => step_call rfl 108 #[.agg #[.bool false, .bool t.1, .slice as_ ks qs], .int .i32 x] (by kernel_rfl) ((stakes_any t.1 t.2 false _ x W (HItm.out W hW) HLt.out).mono fun e w' h => ⟨_, h.1, rfl, h.2⟩), ?_⟩
              simp only [Act.put, List.setIfInBounds_toArray, List.set_cons_zero, List.set_cons_succ]
              refine .inl ⟨.bool (Gb.one t x), fun v W hW hd => step_run rfl _ W (by clear hd; go_simp) rfl (Gw.refl _), ?_⟩
              simp only [Act.put, List.setIfInBounds_toArray, List.set_cons_zero, List.set_cons_succ]
              refine .inl ⟨.pointer (some ⟨b, j + 1, none⟩), fun v W hW hd => step_run rfl _ W (by clear hd; go_simp) rfl (Gw.refl _), ?_⟩
              simp only [Act.put, List.setIfInBounds_toArray, List.set_cons_zero, List.set_cons_succ]
              intro v W hW hV
              clear hV
              obtain ⟨⟨q, sc⟩, sf⟩ := HSt.out W hW
              have HN3 : Hid _ := HN2.out W hW
              generalize Gb.one t x = ans at *
              refine wpAny_ready (rs := [18]) (by kernel_rfl) (by simp) ?_
              refine AllReady.cons rfl (fun K hK => ?_) AllReady.nil
              rw [if_pos (by rfl)]
              go_simp
              refine hK _ _ ?_
              clear hK K
              refine wpAny_done (by kernel_rfl) ?_ _
              go_wp2_with fail
              go_roundw
              case measure => simp only [intOf]; omega
              case rel => exact ⟨j, by omega, by go_num, HN3.out.1, HN3.out.2.1, HN3.out.2.2⟩
    · obtain rfl : i = N := by omega
      have cn := HBr.out.cell (Nat.le_refl n)
      have hk0 : (n : Int) < (n : Int) + 1 := by omega
      have HBe2 : Hid (Below w.heap.size w wr) := by rw [HBe.out]; exact HBs.out
      clear HBr HBs
      rw [HT.out] at cn
      go_wp2_with fail
      go_ret
      exact ⟨rfl, HBe2.out⟩
end Go.Proofs.YtfcnlfblfennaaaDoor

namespace Go.Proofs.YtfcnlfblfennaaaDoor
open Go.RowKit

theorem pmany_any (x : Bool) (v : Value) (w : World) :
    Calls Tryd.prog 105 #[.agg #[.bool x, v]] w fun e w' => e = .returned (.bool x) ∧ Below w.heap.size w w' := by
  go_enter Tryd.func105, Tryd.ntmps105
  go_wp2_with fail
  go_ret
  exact ⟨rfl, (Below.refl _ w).alloc (Nat.le_refl _) _⟩

/-- parts of few signs -/
def FewP (P : List (Option (List (Option Gb.Tst)))) : Prop := ∀ m, some m ∈ P → m.length ≤ 4194304 ∧ FewS m
/-- names that are texts of characters, none of them long -/
def Txt (l : List ByteArray) : Prop := ∀ s ∈ l, s.size ≤ 4194304 ∧ ∃ cs, Nn.chars s.data.toList = some cs

set_option maxHeartbeats 1000000 in
theorem ptakes_any (m : List (Option Gb.Tst)) (x : Bool) (v : Value) (s : ByteArray) (cs : List Nat) (w : World) (h : Sgs w v m) (hm : m.length ≤ 4194304) (hf : FewS m) (hs : s.size ≤ 4194304) (hc : Nn.chars s.data.toList = some cs) :
    Calls Tryd.prog 104 #[.agg #[.bool x, v], .string s] w fun e w' => e = .returned (.bool (Gb.nameFit m s.data.toList)) ∧ Below w.heap.size w w' := by
  obtain ⟨a, k, rfl⟩ := h.slice
  obtain ⟨W0, hW0⟩ : ∃ W0, W0 = w.alloc (.cells #[.bool x, .slice a m.length k] 54) := ⟨_, rfl⟩
  have HB0 : Hid (Below w.heap.size w W0) := by rw [hW0]; exact (Below.refl _ w).alloc (Nat.le_refl _) _
  have hM0 : W0.heap[w.heap.size]? = some (.cells #[.bool x, .slice a m.length k] 54 (0, 0)) := by rw [hW0]; exact heap_alloc_new w _
  obtain ⟨m0, m1, _⟩ := two_at hM0
  obtain ⟨cap, W1, hcv, hR1, hB1, hle⟩ := conv_runes s cs W0 hc hs
  have HB1 : Hid (Below w.heap.size w W1) := HB0.out.trans (hB1.mono HB0.out.size)
  have ht := takeS_any _ _ m cs W1 (h.below HB1.out) hf hm hR1 (by omega)
  have HE : Hid (Gb.nameFit m s.data.toList = Gb.fit Gb.one m cs) := by
    show _ = _
    unfold Gb.nameFit
    rw [hc]; rfl
  generalize Gb.fit Gb.one m cs = ANS at *
  obtain ⟨b2, hb2⟩ : ∃ b2, b2 = w.heap.size := ⟨_, rfl⟩
  rw [← hb2] at m1 m0 hM0
  clear hc hR1 h hB1 hM0
  generalize m.length = M at *
  generalize cs.length = C at *
  go_enter Tryd.func104, Tryd.ntmps104
  go_upto_region 1 with fail
  rw [← hW0, ← hb2]
  clear hW0 hb2
  go_wp2_with fail
  refine ht.mono ?_
  rintro e w3 ⟨rfl, b3⟩
  have HB3 : Hid (Below w.heap.size w w3) := HB1.out.trans (b3.mono HB1.out.size)
  clear ht b3
  go_wp2_with fail
  go_ret
  exact ⟨by rw [HE.out]; rfl, HB3.out⟩
end Go.Proofs.YtfcnlfblfennaaaDoor
