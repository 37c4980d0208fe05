/-
  What checkTimes and keepNewest of package keep answer.
-/
import Derived.Test.YtemcakegbeaeaaaDoorKpOwn
import Derived.Test.YtemcakegbeaeaaaDoorKpRef
import Derived.Test.YtemcakegbeaeaaaDoorKpFl
namespace Go.Proofs.YtemcakegbeaeaaaDoor
open Go.RowKit
set_option maxRecDepth 4000

set_option maxHeartbeats 2000000 in
theorem ktimes_any (v : Value) (l : List Int) (w : World) (h : Ints w v l) (hl : l.length ≤ 140737488351232) :
    Calls Tryd.prog 16 #[v] w fun e w' => e = .returned (.int .i64 (Kp.tErr l)) ∧ w' = w := by
  obtain ⟨a, c, rfl⟩ := h.slice
  unfold Kp.tErr
  by_cases h2 : 200 < l.length
  · rw [if_pos h2]
    go_enter Tryd.func16, Tryd.ntmps16
    go_wp2_with fail
    go_ret
    exact ⟨rfl, rfl⟩
  · rw [if_neg h2]
    have HI : Hid (∀ k, k < l.length → ∃ bk o, a = some ⟨bk, o, none⟩ ∧ w.cell? ⟨bk, o + k, none⟩ = some (.int .i64 (l.getD k 0))) := fun k hk => by
      obtain ⟨bk, o, e1, _, _, e2⟩ := h.get k hk
      exact ⟨bk, o, e1, by rw [e2, List.getD_eq_getElem?_getD, List.getElem?_eq_getElem hk]; rfl⟩
    clear h
    go_enter Tryd.func16, Tryd.ntmps16
    go_wp2_with fail
    go_loop [3, 4, 10] (fun _ _ i => ∃ k : Nat, k ≤ l.length ∧ i = .int .i64 k ∧ Hid (∀ j, j < k → Kp.errAt l j = 0)) (fun _ _ i => l.length - (intOf i).toNat)
    case atStart => exact ⟨0, by omega, rfl, fun j h => absurd h (by omega)⟩
    case round =>
      obtain ⟨k, hk, rfl, HZ⟩ := hrel
      by_cases hlt : k < l.length
      · obtain ⟨bk, o, rfl, c0⟩ := HI.out k hlt
        have HF : Hid (Kp.errAt l k ≠ 0 → Kp.chk l = Kp.errAt l k) := fun q => Kp.chkTo_first HZ.out q _ hlt
        have HN : Hid (Kp.errAt l k = 0 → ∀ j, j < k + 1 → Kp.errAt l j = 0) := fun q j hj => by
          by_cases e : j = k
          · subst e; exact q
          · exact HZ.out j (by omega)
        have HE : Hid (Kp.errAt l k = if l.getD k 0 < 0 ∨ 4223371679 < l.getD k 0 then 1 else if 0 < k ∧ l.getD (k - 1) 0 < l.getD k 0 then 4 else 0) := rfl
        by_cases hb : l.getD k 0 < 0 ∨ 4223371679 < l.getD k 0
        · have HC : Hid (Kp.chk l = 1) := by
            have he := HE.out
            rw [if_pos hb] at he
            have := HF.out (by rw [he]; decide)
            show _ = _
            rw [this, he]
          clear HF HN HE HZ HI
          generalize l.getD k 0 = t at *
          by_cases hb1 : t < 0
          · clear hb
            go_wp2_with fail
            go_ret
            exact ⟨by rw [HC.out]; rfl, rfl⟩
          · have hb2 : 4223371679 < t := by omega
            clear hb
            go_wp2_with fail
            go_ret
            exact ⟨by rw [HC.out]; rfl, rfl⟩
        · have hb1 : 0 ≤ l.getD k 0 := by omega
          have hb2 : l.getD k 0 ≤ 4223371679 := by omega
          by_cases h0 : k = 0
          · subst h0
            rw [Nat.add_zero] at c0
            have HG : Hid (∀ j, j < 0 + 1 → Kp.errAt l j = 0) := HN.out (by rw [HE.out, if_neg hb, if_neg (by omega)])
            clear HF HN HE HZ HI hb
            generalize l.getD 0 0 = t at *
            go_wp2_with fail
            go_round
            case rel => exact ⟨1, by omega, rfl, HG⟩
            case measure => simp only [intOf]; omega
          · obtain ⟨q, rfl⟩ : ∃ q, k = q + 1 := ⟨k - 1, by omega⟩
            obtain ⟨bk', o', e0, c1⟩ := HI.out q (by omega)
            have e1 : bk' = bk ∧ o' = o := by cases e0; exact ⟨rfl, rfl⟩
            obtain ⟨rfl, rfl⟩ := e1
            clear e0
            rw [show q + 1 - 1 = q by omega] at HE
            by_cases hd : l.getD q 0 < l.getD (q + 1) 0
            · have HC : Hid (Kp.chk l = 4) := by
                have he := HE.out
                rw [if_neg hb, if_pos ⟨by omega, hd⟩] at he
                have := HF.out (by rw [he]; decide)
                show _ = _
                rw [this, he]
              clear HF HN HE HZ HI hb
              generalize l.getD (q + 1) 0 = t at *
              generalize l.getD q 0 = t0 at *
              go_wp2_with fail
              go_ret
              exact ⟨by rw [HC.out]; rfl, rfl⟩
            · have HG : Hid (∀ j, j < q + 1 + 1 → Kp.errAt l j = 0) := HN.out (by rw [HE.out, if_neg hb, if_neg (fun x => hd x.2)])
              clear HF HN HE HZ HI hb
              generalize l.getD (q + 1) 0 = t at *
              generalize l.getD q 0 = t0 at *
              go_wp2_with fail
              go_round
              case rel => exact ⟨q + 1 + 1, by omega, by go_num, HG⟩
              case measure => simp only [intOf]; omega
      · obtain rfl : k = l.length := by omega
        have HC : Hid (Kp.chk l = 0) := Kp.chkTo_ok _ HZ.out
        clear HZ HI
        go_wp2_with fail
        go_ret
        exact ⟨by rw [HC.out]; rfl, rfl⟩

namespace Kp
/-- the span ahead of the k-th time -/
def ah (r : Nat) (l : List Int) (k : Nat) : Int × Int := if k = 0 then (0, 0) else spanP r (day (l.getD (k - 1) 0))
theorem ah_next (r : Nat) (l : List Int) (k : Nat) : ah r l (k + 1) = spanP r (day (l.getD k 0)) := by unfold ah; rw [if_neg (by omega), Nat.add_sub_cancel]
theorem new_ah (r : Nat) (l : List Int) (k : Nat) : ¬ new r l k ↔ (0 < k ∧ (spanP r (day (l.getD k 0))).1 = (ah r l k).1 ∧ (spanP r (day (l.getD k 0))).2 = (ah r l k).2) := by
  unfold new ah
  by_cases h : k = 0
  · subst h; simp
  · rw [if_neg h]
    have := spanP_iff r (l.getD (k - 1) 0) (l.getD k 0)
    constructor
    · intro q
      have q' : sp r (l.getD (k - 1) 0) = sp r (l.getD k 0) := Decidable.byContradiction fun x => q (.inr x)
      have := this.2 q'
      exact ⟨by omega, this.1.symm, this.2.symm⟩
    · rintro ⟨_, e1, e2⟩ (q | q)
      · exact h q
      · exact q (this.1 ⟨e1.symm, e2.symm⟩)
end Kp

/-- keepNewest at work: what is kept so far, the span ahead -/
structure KN (W V : World) (g n b : Nat) (f : Nat → Bool) (s : Int × Int) : Prop where
  bel : Below g W V
  out : V.ownsRow g 4 1 (.slice (some ⟨g, 0, none⟩) n n) n ((fl n f).map Tb)
  c0 : V.cell? ⟨b, 0, none⟩ = some (.int .i64 s.1)
  c1 : V.cell? ⟨b, 1, none⟩ = some (.int .i64 s.2)
  f0 : V.frozen? ⟨b, 0, none⟩ = false
  f1 : V.frozen? ⟨b, 1, none⟩ = false
  lt : b < V.heap.size
  ne : g < b

theorem KN.under {W V V' : World} {g n b B : Nat} {f : Nat → Bool} {s : Int × Int} (h : KN W V g n b f s) (hb : Below B V V') (hB : b < B) : KN W V' g n b f s := by
  have hn := h.ne
  exact ⟨h.bel.trans (hb.mono (by omega)), own_under h.out hb (by omega), (hb.cell (p := ⟨b, 0, none⟩) hB).trans h.c0, (hb.cell (p := ⟨b, 1, none⟩) hB).trans h.c1, (hb.frozen (p := ⟨b, 0, none⟩) hB).trans h.f0, (hb.frozen (p := ⟨b, 1, none⟩) hB).trans h.f1, by have := hb.size; have := h.lt; omega, hn⟩

theorem KN.ext {W V : World} {g n b : Nat} {f f' : Nat → Bool} {s : Int × Int} (h : KN W V g n b f s) (he : ∀ i, i < n → f i = f' i) : KN W V g n b f' s := ⟨h.bel, by rw [← fl_ext he]; exact h.out, h.c0, h.c1, h.f0, h.f1, h.lt, h.ne⟩

theorem KN.set {W V : World} {g n b : Nat} {f : Nat → Bool} {s : Int × Int} (h : KN W V g n b f s) (k : Nat) : KN W (V.setCell ⟨g, k, none⟩ (.bool true)) g n b (fun i => if i = k then true else f i) s := by
  have hn := h.ne
  refine ⟨h.bel.setCell (Nat.le_refl _) _, ?_, ?_, ?_, ?_, ?_, by simpa using h.lt, hn⟩
  · have := bool_store h.out k true
    rwa [fl_set] at this
  · rw [World.cell?_setCell_other _ _ _ _ (by intro e; have := congrArg Addr.block e; simp at this; omega)]; exact h.c0
  · rw [World.cell?_setCell_other _ _ _ _ (by intro e; have := congrArg Addr.block e; simp at this; omega)]; exact h.c1
  · simpa using h.f0
  · simpa using h.f1

theorem KN.put {W V : World} {g n b : Nat} {f : Nat → Bool} {s : Int × Int} (h : KN W V g n b f s) (x y : Int) : KN W ((V.setCell ⟨b, 0, none⟩ (.int .i64 x)).setCell ⟨b, 1, none⟩ (.int .i64 y)) g n b f (x, y) := by
  have hn := h.ne
  have hl := h.lt
  refine ⟨(h.bel.setCell (by show g ≤ b; omega) _).setCell (by show g ≤ b; omega) _, ?_, ?_, ?_, ?_, ?_, by simpa using hl, hn⟩
  · refine own_under h.out (B := b) (((Below.refl b V).setCell (Nat.le_refl _) _).setCell (Nat.le_refl _) _) hn
  · rw [World.cell?_setCell_other _ _ _ _ (by simp)]
    exact World.cell?_setCell_same _ _ _ h.c0
  · refine World.cell?_setCell_same (u := .int .i64 s.2) _ _ _ ?_
    rw [World.cell?_setCell_other _ _ _ _ (by simp)]
    exact h.c1
  · simpa using h.f0
  · simpa using h.f1

theorem cf_day (args : Array Value) (V : World) : (callFunc 18 args).run Tryd.prog V = .ok (.enter 18 args) V := by simp [callFunc, go_sem, Tryd.f18]

set_option maxHeartbeats 8000000 in
theorem knew_any (fn : Nat) (r : Nat) (m : Int) (l : List Int) (f : Nat → Bool) (g : Nat) (a : Option Addr) (c : Nat) (w W : World)
    (hcf : ∀ (args : Array Value) (V : World), (callFunc fn args).run Tryd.prog V = .ok (.enter fn args) V)
    (hs : ∀ n V, Cv.dayOk n → Lens V → Calls Tryd.prog fn #[.int .i64 n] V fun e w' => e = .returned (spanV r n) ∧ Below V.heap.size V w')
    (h : Ints w (.slice a l.length c) l) (hW : Below w.heap.size w W) (hg : w.heap.size ≤ g) (hL : Lens w) (hm0 : 0 ≤ m) (hm : m ≤ 100) (hl : l.length ≤ 200) (hk0 : Kp.chk l = 0)
    (ho : W.ownsRow g 4 1 (.slice (some ⟨g, 0, none⟩) l.length l.length) l.length ((fl l.length f).map Tb)) :
    Calls Tryd.prog 17 #[.slice (some ⟨g, 0, none⟩) l.length l.length, .slice a l.length c, .int .i64 m, .func (.func fn) #[] #[]] W fun e w' =>
      e = .returned (.tuple #[]) ∧ w'.ownsRow g 4 1 (.slice (some ⟨g, 0, none⟩) l.length l.length) l.length ((fl l.length (Kp.nw r m l f l.length)).map Tb) ∧ Below g W w' := by
  have hD := Kp.chk_desc hk0
  have hgW : g < W.heap.size := own_there ho
  obtain ⟨W1, hW1⟩ : ∃ W1, W1 = W.alloc (.cells #[.int .i64 0, .int .i64 0] 47) := ⟨_, rfl⟩
  have HK1 : Hid (KN W W1 g l.length W.heap.size (Kp.nw r m l f 0) (Kp.ah r l 0)) := by
    rw [hW1]
    refine ⟨(Below.refl _ W).alloc (by omega) _, ?_, by simp [Kp.ah], by simp [Kp.ah], by simp, by simp, by simp, by omega⟩
    have := own_under ho ((Below.refl W.heap.size W).alloc (Nat.le_refl _) (.cells #[.int .i64 0, .int .i64 0] 47)) hgW
    rw [← fl_ext (f := f) (fun i _ => (Kp.nw_zero r m l f i).symm)]
    exact this
  go_enter Tryd.func17, Tryd.ntmps17
  go_upto_region 1 with fail
  rw [← hW1]
  clear hW1
  go_wp2_with fail
  go_loopw [2, 14] (fun mv i wr => ∃ k : Nat, k ≤ l.length ∧ i = .int .i64 k ∧ mv = .int .i64 (m - Kp.chg r l k) ∧ Hid ((Kp.chg r l k : Int) ≤ m) ∧ Hid (KN W wr g l.length W.heap.size (Kp.nw r m l f k) (Kp.ah r l k))) (fun _ i _ => l.length - (intOf i).toNat)
  case atStart => exact ⟨0, by omega, rfl, by simp [Kp.chg], by show _ ≤ _; simp [Kp.chg]; exact hm0, HK1⟩
  case round =>
    obtain ⟨k, hk, rfl, rfl, HC, HK⟩ := hrel
    by_cases hlt : k < l.length
    · obtain ⟨bk, o, rfl, -, hbk, y0⟩ := h.get k hlt
      have y1 := (((hW.mono (Nat.le_refl _)).trans (HK.out.bel.mono hg)).cell (p := ⟨bk, o + k, none⟩) hbk).trans y0
      have ht := Kp.err_ok (Kp.chkTo_zero _ hk0 k hlt)
      have hday := (Kp.day_ok hk0 hlt).2.2
      have e0 : l[k] = l.getD k 0 := by rw [List.getD_eq_getElem?_getD, List.getElem?_eq_getElem hlt]; rfl
      rw [e0] at y1
      have HNA := Kp.new_ah r l k
      have HAN := Kp.ah_next r l k
      have hs' := fun V => hs (Kp.day (l.getD k 0)) V hday
      clear y0 e0 hday
      obtain ⟨t, htt⟩ : ∃ t : Nat, l.getD k 0 = (t : Int) := ⟨(l.getD k 0).toNat, by omega⟩
      rw [htt] at ht y1 HNA HAN hs'
      rw [show Kp.day (t : Int) = ((t / 1440 : Nat) : Int) by unfold Kp.day; omega] at hs' HNA HAN
      unfold spanV at hs'
      generalize Kp.spanP r ((t / 1440 : Nat) : Int) = sp at *
      have hL' : Hid (Lens wr) := lens_on hL (hW.trans (HK.out.bel.mono hg)) (Nat.le_refl _)
      have HN : Hid (¬ Kp.new r l k ↔ (0 < k ∧ sp.1 = (Kp.ah r l k).1 ∧ sp.2 = (Kp.ah r l k).2)) := HNA
      have HA : Hid (Kp.ah r l (k + 1) = sp) := HAN
      obtain ⟨s1, s2⟩ := sp
      dsimp only at hs' HN
      clear hs HNA HAN htt
      go_wp2_with fail
      refine (hs' _ hL'.out).mono ?_
      rintro e w2 ⟨rfl, b2⟩
      have hne := HK.out.ne
      have HK2 : Hid (KN W w2 g l.length W.heap.size (Kp.nw r m l f k) (Kp.ah r l k)) := HK.out.under b2 HK.out.lt
      clear HK b2 hL' hs' y1 ht
      have c0 := HK2.out.c0
      have c1 := HK2.out.c1
      have f0 := HK2.out.f0
      have f1 := HK2.out.f1
      have hsz := HK2.out.lt
      have HK4 : Hid (KN W (w2.alloc (.cells #[.int .i64 s1, .int .i64 s2] 47)) g l.length W.heap.size (Kp.nw r m l f k) (Kp.ah r l k)) := HK2.out.under ((Below.refl _ w2).alloc (Nat.le_refl _) _) hsz
      by_cases hold : ¬ Kp.new r l k
      · obtain ⟨h0, h1, h2⟩ := HN.out.1 hold
        have HE : Hid (Kp.chg r l (k + 1) = Kp.chg r l k) := Kp.chg_old hold
        have HK3 : Hid (KN W (w2.alloc (.cells #[.int .i64 s1, .int .i64 s2] 47)) g l.length W.heap.size (Kp.nw r m l f (k + 1)) (Kp.ah r l (k + 1))) := by
          have e : Kp.ah r l k = Kp.ah r l (k + 1) := by rw [HA.out]; exact Prod.ext h1.symm h2.symm
          rw [← e]
          exact HK4.out.ext (fun i _ => (Kp.nw_old hD f hlt hold i).symm)
        rw [← h1] at c0
        rw [← h2] at c1
        clear HN HA HK2 h1 h2 hold f0 f1 HK4
        go_wp2_with fail
        go_roundw
        case rel => exact ⟨k + 1, by omega, by go_num, by rw [HE.out], by rw [HE.out]; exact HC, HK3⟩
        case measure => simp only [intOf]; omega
      · have hnew : Kp.new r l k := Decidable.byContradiction hold
        have HD : Hid (0 < k → s1 = (Kp.ah r l k).1 → s2 = (Kp.ah r l k).2 → False) := fun x y z => hold (HN.out.2 ⟨x, y, z⟩)
        have HE : Hid (Kp.chg r l (k + 1) = Kp.chg r l k + 1) := Kp.chg_new hnew
        by_cases hst : m ≤ (Kp.chg r l k : Int)
        · have hst2 : m = (Kp.chg r l k : Int) := by have := HC.out; omega
          have HK5 : Hid (KN W (w2.alloc (.cells #[.int .i64 s1, .int .i64 s2] 47)) g l.length W.heap.size (Kp.nw r m l f l.length) (Kp.ah r l k)) := HK4.out.ext (fun i hi => Kp.nw_stop hD f hst hi)
          clear HN HA HK2 hold hnew HK4 hst f0 f1
          generalize Kp.ah r l k = A at *
          obtain ⟨a1, a2⟩ := A
          dsimp only at c0 c1 HD
          generalize Kp.chg r l k = C at *
          subst hst2
          by_cases hk0 : 0 < k
          · by_cases h1 : s1 = a1
            · have h2 : s2 ≠ a2 := fun q => HD.out hk0 h1 q
              subst h1
              clear HD
              go_wp2_with fail
              refine bodyPost_ret (results_none rfl _ _ _) rfl ?_
              exact ⟨rfl, HK5.out.out, HK5.out.bel⟩
            · clear HD
              go_wp2_with fail
              refine bodyPost_ret (results_none rfl _ _ _) rfl ?_
              exact ⟨rfl, HK5.out.out, HK5.out.bel⟩
          · obtain rfl : k = 0 := by omega
            clear HD
            go_wp2_with fail
            refine bodyPost_ret (results_none rfl _ _ _) rfl ?_
            exact ⟨rfl, HK5.out.out, HK5.out.bel⟩
        · have HM : Hid (((Kp.chg r l (k + 1) : Nat) : Int) ≤ m) := by rw [HE.out]; show _ ≤ _; omega
          have x2 := HK4.out.out.frozenAt k
          have x1 := bool_at HK4.out.out k (by rw [fl_length]; exact hlt)
          have HK5 : Hid (KN W ((w2.alloc (.cells #[.int .i64 s1, .int .i64 s2] 47)).setCell ⟨g, k, none⟩ (.bool true)) g l.length W.heap.size (Kp.nw r m l f (k + 1)) (Kp.ah r l k)) := (HK4.out.set k).ext (fun i _ => Kp.nw_new hD f hlt hnew (by omega) i)
          have hex : ∃ x, (fl l.length (Kp.nw r m l f k))[k]'(by rw [fl_length]; exact hlt) = x := ⟨_, rfl⟩
          obtain ⟨x, hx⟩ := hex
          rw [hx] at x1
          have HK6 : Hid (KN W ((((w2.alloc (.cells #[.int .i64 s1, .int .i64 s2] 47)).setCell ⟨g, k, none⟩ (.bool true)).setCell ⟨W.heap.size, 0, none⟩ (.int .i64 s1)).setCell ⟨W.heap.size, 1, none⟩ (.int .i64 s2)) g l.length W.heap.size (Kp.nw r m l f (k + 1)) (Kp.ah r l (k + 1))) := by rw [HA.out]; exact HK5.out.put s1 s2
          clear HN HA HK2 hold hnew HK4 HK5 hx
          generalize Kp.ah r l k = A at *
          obtain ⟨a1, a2⟩ := A
          dsimp only at c0 c1 HD
          by_cases hk0 : 0 < k
          · by_cases h1 : s1 = a1
            · have h2 : s2 ≠ a2 := fun q => HD.out hk0 h1 q
              subst h1
              clear HD
              go_wp2_with fail
              go_roundw
              case rel => exact ⟨k + 1, by omega, by go_num, by rw [HE.out]; congr 1; omega, HM, HK6⟩
              case measure => simp only [intOf]; omega
            · clear HD
              go_wp2_with fail
              go_roundw
              case rel => exact ⟨k + 1, by omega, by go_num, by rw [HE.out]; congr 1; omega, HM, HK6⟩
              case measure => simp only [intOf]; omega
          · obtain rfl : k = 0 := by omega
            clear HD
            go_wp2_with fail
            go_roundw
            case rel => exact ⟨0 + 1, by omega, by go_num, by rw [HE.out]; congr 1; omega, HM, HK6⟩
            case measure => simp only [intOf]; omega
    · obtain rfl : k = l.length := by omega
      go_wp2_with fail
      go_end0
      exact ⟨rfl, HK.out.out, HK.out.bel⟩

end Go.Proofs.YtemcakegbeaeaaaDoor
