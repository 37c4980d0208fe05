/-
  What slices.Grow (of nil) and slices.Concat answer, at places; appending rows.
-/
import Derived.Test.YtllioidjelgafabPlComp
import Derived.Lib.AppendZerosOnto
import Derived.Laws.AppendOwnNone
namespace Go.Proofs.Ytllioidjelgafab
open Go.RowKit
set_option maxRecDepth 4000

theorem info_plz : (Try.prog.info? 29).map (fun i => (i.zero, i.size, i.bytes)) = some (some (plV pl0), 12, 40) := by kernel_rfl
theorem info_three {P : Program} {e : TypeId} {z : Option Value} {s b : Nat} (h : (P.info? e).map (fun i => (i.zero, i.size, i.bytes)) = some (z, s, b)) : ∃ i, P.info? e = some i ∧ i.zero = z ∧ i.size = s ∧ i.bytes = b := by
  cases hi : P.info? e with
  | none => rw [hi] at h; cases h
  | some i =>
    rw [hi] at h
    simp only [Option.map_some, Option.some.injEq, Prod.mk.injEq] at h
    exact ⟨i, rfl, h.1, h.2.1, h.2.2⟩
theorem app_none {P : Program} (w : World) (base : Nat) (t ty e : TypeId) (i : TypeInfo) (size : Nat) (ht : P.underlying t = some (.slice e)) (hi : P.info? e = some i) (v : Value) (n : Nat) (xs : List Value) (hown : w.ownsRow base e size v n xs) (c : Nat) :
    (Builtin.append_ #[t, t] ty #[v, .slice none 0 c]).run P w = .ok v w := by
  rcases hown.2 with ⟨rfl, rfl⟩ | ⟨g, cap, cur, rfl, _, _, hnc, _⟩
  · simp [Builtin.append_, run_underlying ht, sizeOf, typeInfo, hi, Builtin.lenOf, Builtin.firstCells]
  · simp [Builtin.append_, run_underlying ht, sizeOf, typeInfo, hi, Builtin.lenOf, Builtin.firstCells, hnc, storeCells]
/-- append of a row that may be empty, or nil -/
theorem wpList_append_row {P : Program} (w : World) {ops : Array Oper} {rest : List Oper} {o : Oper} {a : Act} {Q : Exit → Act → World → Prop} (hgd : o.guard = none) (s x : Operand) (t : TypeId)
    (ho : o.op = .call { callee := .builtin .append, args := #[s, x], argTypes := #[t, t] })
    (base : Nat) (e : TypeId) (i : TypeInfo) (z : Value) (size bytes : Nat) (ht : P.underlying t = some (.slice e)) (hi : P.info? e = some i) (hz : i.zero = some z)
    (hsize : i.size = size) (hby : i.bytes = bytes) (hzs : z.cells.size = size) (hsz : 0 < size)
    (v : Value) (n : Nat) (xs : List Value) (hs : a.eval s = v) (hown : w.ownsRow base e size v n xs)
    (ao : Option Addr) (m c : Nat) (news : List Value) (hx : a.eval x = .slice ao m c) (hl : news.length = m * size) (hnone : ao = none → m = 0) (hnews : ∀ ad, ao = some ad → ∀ j u, news[j]? = some u → w.cell? (ad.add j) = some u) (h1 : ∀ u ∈ news, u.oneCell' = true)
    (h63 : n + m ≤ maxLen) (hbytes : (n + m) * bytes ≤ 140737488355328) (hbase : base ≤ w.heap.size)
    (h : ∀ v' w', w'.ownsRow base e size v' (n + m) (xs ++ news) → w.grownBy w' v.ownBlock → wpList P ops Q rest (a.put o.dst v') w') : wpList P ops Q (o :: rest) a w := by
  cases ao with
  | some ad => exact wpList_append_own w hgd s x t ho base e i z size bytes ht hi hz hsize hby hzs hsz v n xs hs hown ad m c news hx hl (hnews ad rfl) h1 h63 hbytes hbase fun v' w' a1 a2 _ => h v' w' a1 a2
  | none =>
    obtain rfl := hnone rfl
    have hn : news = [] := List.eq_nil_of_length_eq_zero (by simpa using hl)
    subst hn
    refine wpList_plain hgd fun K hK => ?_
    have hrun := app_none (P := P) w base t o.type e i size ht hi v n xs hown c
    unfold Oper.wp
    simp [execOp, ho, resolve, invoke, builtin, hs, hx, hrun, Result.andThen]
    exact hK _ _ (h v w (by simpa using hown) ⟨rfl, rfl, rfl, Nat.le_refl _, fun _ _ _ => rfl⟩)
theorem Rx.src {α : Type} {k : Nat} {C : α → List Value} {w : World} {a : Option Addr} {n c : Nat} {l : List α} (hC : ∀ t, (C t).length = k) (hk : 0 < k) (h : Rx k C w (.slice a n c) l) : (a = none → l.length = 0) ∧ ∀ ad, a = some ad → ∀ j u, (rowR C l)[j]? = some u → w.cell? (ad.add j) = some u := by
  rcases h.at_ with ⟨_, rfl⟩ | ⟨bk, o, cap, h1, h3, h4⟩
  · exact ⟨fun _ => rfl, fun ad _ j u hj => by simp [rowR] at hj⟩
  · rw [Value.slice.injEq] at h1
    obtain ⟨rfl, rfl, rfl⟩ := h1
    refine ⟨fun e => by simp at e, fun ad e j u hj => ?_⟩
    obtain rfl := Option.some.inj e
    have hjl : j < l.length * k := by
      have := (List.getElem?_eq_some_iff.1 hj).1
      rwa [rowR_length hC] at this
    have hr : j % k < k := Nat.mod_lt _ hk
    have hq : j / k < l.length := (Nat.div_lt_iff_lt_mul hk).2 hjl
    have ej : j / k * k + j % k = j := by have := Nat.div_add_mod j k; rw [Nat.mul_comm] at this; exact this
    rw [← ej, rowR_get hC l (j / k) (j % k) l[j / k] (List.getElem?_eq_getElem hq) hr] at hj
    have := h4 (j / k) _ (List.getElem?_eq_getElem hq) (j % k) u hj
    rw [Nat.add_assoc, ej] at this
    rw [show ((⟨bk, o, none⟩ : Addr).add j) = ⟨bk, o + j, none⟩ from Addr.add_mid _ _ _]
    exact this

set_option maxHeartbeats 2000000 in
theorem growp_some (n : Nat) (w : World) (h1 : 1 ≤ n) (h2 : n ≤ 1000) :
    Calls Try.prog 34 #[.slice none 0 0, .int .i64 n] w fun e w' => ∃ v, e = .returned v ∧ w'.ownsRow w.heap.size 29 12 v 0 [] ∧ Below w.heap.size w w' := by
  obtain ⟨i0, hi, hz0, hz1, hz2⟩ := info_three info_plz
  have hge := grownCap_ge w n 0 29
  have hle := grownCap_le_maxLen w n 0 29 (by unfold maxLen; omega)
  have hr : ∀ ty, (Builtin.append_ #[22, 3] ty #[.slice none 0 0, .int .i64 n]).run Try.prog w = .ok (.slice (some ⟨w.heap.size, 0, none⟩) n (grownCap w n 0 29))
      (w.drew.alloc (.cells (([] : List Value).toArray ++ Builtin.zeroCells (plV pl0).cells n ++ Builtin.zeroCells (plV pl0).cells (grownCap w n 0 29 - n)) 29)) := fun ty => by
    have := Lib.run_append_grow_zeros w 22 3 ty 29 i0 (plV pl0) .i64 .i64 Try.underlying22 Try.underlying3 hi hz0 none 0 0 [] (run_firstCells_none w.drew i0.size 0 0 0) n (by omega) (by omega) (by omega) (by omega) (by rw [hz2]; omega) (growslice_fits (by omega) (by rw [hz2]; omega))
    rw [Nat.zero_add] at this
    exact this
  have HO : Hid (∀ W, W = w.drew.alloc (.cells (([] : List Value).toArray ++ Builtin.zeroCells (plV pl0).cells n ++ Builtin.zeroCells (plV pl0).cells (grownCap w n 0 29 - n)) 29) →
      W.ownsRow w.heap.size 29 12 (.slice (some ⟨w.heap.size, 0, none⟩) 0 (grownCap w n 0 29)) 0 [] ∧ Below w.heap.size w W) := by
    rintro W rfl
    refine ⟨?_, (Below.refl _ w).drew.alloc (Nat.le_refl _) _⟩
    refine World.ownsRow_made w.drew _ _ (Nat.le_refl _) hle ?_
    simp only [Array.size_append, List.size_toArray, size_zeroCells, List.length_nil]
    show 0 + n * 12 + (grownCap w n 0 29 - n) * 12 = grownCap w n 0 29 * 12
    omega
  generalize w.drew.alloc (.cells (([] : List Value).toArray ++ Builtin.zeroCells (plV pl0).cells n ++ Builtin.zeroCells (plV pl0).cells (grownCap w n 0 29 - n)) 29) = W at *
  generalize grownCap w n 0 29 = G at *
  unfold maxLen at hle
  go_enter Try.func34, Try.ntmps34
  go_wp2_with (at_builtin; refine Lib.wpList_append_run _ rfl _ _ _ _ rfl _ _ rfl rfl _ _ (hr _) ?_)
  all_goals go_ret
  all_goals exact ⟨_, rfl, HO.out _ rfl⟩

theorem growp_any (n : Nat) (w : World) (h2 : n ≤ 1000) :
    Calls Try.prog 34 #[.slice none 0 0, .int .i64 n] w fun e w' => ∃ v, e = .returned v ∧ w'.ownsRow w.heap.size 29 12 v 0 [] ∧ Below w.heap.size w w' := by
  by_cases h1 : 1 ≤ n
  · exact growp_some n w h1 h2
  · obtain rfl : n = 0 := by omega
    show Calls Try.prog 34 #[.slice none 0 0, .int .i64 0] w _
    go_enter Try.func34, Try.ntmps34
    go_wp2_with fail
    go_ret
    exact ⟨_, rfl, World.ownsRow_nil _ _ _ _, Below.refl _ _⟩

/-- the places of the first k parts -/
def catP (ps : List (Value × List Plc)) (k : Nat) : List Plc := ((ps.take k).map (·.2)).flatten
theorem catP_next (ps : List (Value × List Plc)) (k : Nat) (hk : k < ps.length) : catP ps (k + 1) = catP ps k ++ ps[k].2 := by
  unfold catP
  rw [List.take_succ_eq_append_getElem hk, List.map_append, List.flatten_append]
  simp
theorem catP_le (ps : List (Value × List Plc)) (k : Nat) (hk : k ≤ ps.length) : (catP ps k).length ≤ (catP ps ps.length).length := by
  obtain ⟨d, hd⟩ : ∃ d, ps.length = k + d := ⟨ps.length - k, by omega⟩
  rw [hd]
  clear hd hk
  induction d with
  | zero => exact Nat.le_refl _
  | succ d ih =>
    refine Nat.le_trans ih ?_
    by_cases h : k + d < ps.length
    · rw [← Nat.add_assoc, catP_next _ _ h, List.length_append]
      omega
    · unfold catP
      rw [List.take_of_length_le (by omega), List.take_of_length_le (by omega)]
      exact Nat.le_refl _

set_option maxHeartbeats 4000000 in
theorem concatp_any (Bk c : Nat) (ps : List (Value × List Plc)) (w : World) (hB : Bk < w.heap.size) (hp : ps.length ≤ 4) (hc : ∀ j (hj : j < ps.length), w.cell? ⟨Bk, j, none⟩ = some ps[j].1)
    (hs : ∀ j (hj : j < ps.length), Px w ps[j].1 ps[j].2) (ht : (catP ps ps.length).length ≤ 1000) :
    Calls Try.prog 23 #[.slice (some ⟨Bk, 0, none⟩) ps.length c] w fun e w' => ∃ v, e = .returned v ∧ w'.ownsRow w.heap.size 29 12 v (catP ps ps.length).length (rowR plC (catP ps ps.length)) ∧ Below w.heap.size w w' := by
  obtain ⟨i0, hi, hz0, hz1, hz2⟩ := info_three info_plz
  have HL : Hid (∀ k, k ≤ ps.length → (catP ps k).length ≤ 1000) := fun k hk => Nat.le_trans (catP_le ps k hk) ht
  have HC : Hid (∀ j (hj : j < ps.length), w.cell? ⟨Bk, j, none⟩ = some ps[j].1) := hc
  have HS : Hid (∀ j (hj : j < ps.length), Px w ps[j].1 ps[j].2) := hs
  have hg := fun W => growp_any (catP ps ps.length).length W ht
  clear hc hs
  go_enter Try.func23, Try.ntmps23
  go_wp2_with fail
  go_loop [3, 11] (fun s i => ∃ k : Nat, k ≤ ps.length ∧ i = .int .i64 k ∧ s = .int .i64 (catP ps k).length) (fun _ i => ps.length - (intOf i).toNat)
  case atStart => exact ⟨0, by omega, rfl, rfl⟩
  case round =>
    obtain ⟨k, hk, rfl, rfl⟩ := hrel
    by_cases hlt : k < ps.length
    · have hx := HC.out k hlt
      obtain ⟨a, cap, hv, _, _⟩ := (HS.out k hlt).slice
      rw [hv] at hx
      have hl0 := HL.out k hk
      have hl1 := HL.out (k + 1) hlt
      have HN : Hid ((catP ps (k + 1)).length = (catP ps k).length + ps[k].2.length) := by show _ = _; rw [catP_next ps k hlt, List.length_append]
      have hsum : (catP ps k).length + ps[k].2.length ≤ 1000 := by rw [← HN.out]; exact hl1
      clear hv hl1
      generalize ps[k].2.length = m at *
      generalize (catP ps k).length = S at *
      go_wp2_with fail
      go_round
      case rel => exact ⟨k + 1, by omega, by go_num, by rw [HN.out]; go_num⟩
      case measure => simp only [intOf]; omega
    · obtain rfl : k = ps.length := by omega
      go_wp2_with fail
      refine (hg _).mono ?_
      rintro e w1 ⟨v1, rfl, o1, hb1⟩
      clear hg
      have HB1 : Hid (Below w.heap.size w w1) := hb1
      have HO1 : Hid (w1.ownsRow w.heap.size 29 12 v1 0 []) := o1
      clear o1 hb1
      go_wp2_with fail
      go_loopw [6, 27] (fun v i wr => ∃ k : Nat, k ≤ ps.length ∧ i = .int .i64 k ∧ wr.ownsRow w.heap.size 29 12 v (catP ps k).length (rowR plC (catP ps k)) ∧ Hid (Below w.heap.size w wr)) (fun _ i _ => ps.length - (intOf i).toNat)
      case atStart => exact ⟨0, by omega, rfl, HO1.out, HB1⟩
      case round =>
        obtain ⟨k, hk, rfl, hown, hbel⟩ := hrel
        by_cases hlt : k < ps.length
        · have hx := (hbel.out.cell (p := ⟨Bk, k, none⟩) hB).trans (HC.out k hlt)
          obtain ⟨ao, cap, hv, _, _⟩ := (HS.out k hlt).slice
          have hsrc := (HS.out k hlt).below hbel.out
          rw [hv] at hx hsrc
          obtain ⟨hs1, hs2⟩ := hsrc.src plC_length (by omega)
          have hl0 := HL.out k hk
          have hl1 := HL.out (k + 1) hlt
          have HT : Hid (catP ps (k + 1) = catP ps k ++ ps[k].2) := catP_next ps k hlt
          have hsum : (catP ps k).length + ps[k].2.length ≤ 1000 := by rw [← List.length_append, ← HT.out]; exact hl1
          have HS1 : Hid (ao = none → ps[k].2.length = 0) := hs1
          have HS2 : Hid (∀ ad, ao = some ad → ∀ j u, (rowR plC ps[k].2)[j]? = some u → wr.cell? (ad.add j) = some u) := hs2
          have hsz := hbel.out.size
          clear hsrc hs1 hs2 hv hl1
          generalize ps[k].2 = m at *
          generalize catP ps k = S at *
          go_wp2_with (at_builtin; refine wpList_append_row _ rfl (.tmp 31) (.tmp 32) 22 rfl w.heap.size 29 i0 (plV pl0) 12 40 Try.underlying22 hi hz0 hz1 hz2 (by kernel_rfl) (by decide) _ _ _ rfl hown ao m.length _ (rowR plC m) rfl (rowR_length plC_length m) HS1.out HS2.out (rowR_one plC_one m) ?c3 ?c4 ?c5 ?_)
          case c3 => unfold maxLen; omega
          case c4 => omega
          case c5 => omega
          intro v1 w3 hown3 hgrow
          have HO : Hid (w3.ownsRow w.heap.size 29 12 v1 (catP ps (k + 1)).length (rowR plC (catP ps (k + 1)))) := by
            rw [HT.out, List.length_append, show rowR plC (S ++ m) = rowR plC S ++ rowR plC m from by simp [rowR]]
            exact hown3
          have HB3 : Hid (Below w.heap.size w w3) := hbel.out.grown hgrow (by omega) fun j hj => (hown.lt j hj).1
          clear hown3 hgrow hown hbel hx HS1 HS2
          go_wp2_with fail
          go_roundw
          case rel => exact ⟨k + 1, by omega, by go_num, HO.out, HB3⟩
          case measure => simp only [intOf]; omega
        · obtain rfl : k = ps.length := by omega
          go_wp2_with fail
          go_ret
          exact ⟨_, rfl, hown, hbel.out⟩
end Go.Proofs.Ytllioidjelgafab
