/-
  What pointErr, Graph, reached and Reach of package lumref answer.
-/
import Derived.Test.YtoibiaikbgkbpaaGrMem
import Derived.Test.YtoibiaikbgkbpaaKept
import Derived.Test.YtoibiaikbgkbpaaKpFl
namespace Go.Proofs.Ytoibiaikbgkbpaa
open Go.RowKit
set_option maxRecDepth 4000

set_option maxHeartbeats 1000000 in
theorem rpoint_any (v : Value) (l : List Int) (n : Nat) (w : World) (h : Ints w v l) (hl : l.length ≤ 9223372036854775807) :
    Calls Try.prog 20 #[v, .int .i64 n] w fun e w' => e = .returned (.int .i64 (Gr.pErr n l)) ∧ w' = w := by
  obtain ⟨a, c, rfl⟩ := h.slice
  by_cases h64 : 64 < l.length
  · have HE : Hid (Gr.pErr n l = 2) := if_pos h64
    go_enter Try.func20, Try.ntmps20
    go_wp2_with fail
    go_ret
    exact ⟨by rw [HE.out]; rfl, rfl⟩
  · have HE : Hid (Gr.pErr n l = if ∀ k ∈ l, 0 ≤ k ∧ k < (n : Int) then 0 else 1) := if_neg h64
    go_enter Try.func20, Try.ntmps20
    go_wp2_with fail
    go_loop [12] (fun i => ∃ k : Nat, k ≤ l.length ∧ i = .int .i64 k ∧ Hid (∀ j (hj : j < l.length), j < k → 0 ≤ l[j] ∧ l[j] < (n : Int))) (fun i => l.length - (intOf i).toNat)
    case atStart => exact ⟨0, by omega, rfl, fun j _ h => absurd h (by omega)⟩
    case round =>
      obtain ⟨k, hk, rfl, HZ⟩ := hrel
      by_cases hlt : k < l.length
      · obtain ⟨bk, o, rfl, -, hbk, c0⟩ := h.get k hlt
        by_cases hb : 0 ≤ l[k] ∧ l[k] < (n : Int)
        · have HN : Hid (∀ j (hj : j < l.length), j < k + 1 → 0 ≤ l[j] ∧ l[j] < (n : Int)) := fun j hj h2 => by
            by_cases e : j = k
            · subst e; exact hb
            · exact HZ.out j hj (by omega)
          clear HZ h HE
          generalize l[k] = t at *
          go_wp2_with fail
          go_round
          case rel => exact ⟨k + 1, by omega, by go_num, HN⟩
          case measure => simp only [intOf]; omega
        · have HF : Hid (Gr.pErr n l = 1) := by
            have : ¬ ∀ k ∈ l, 0 ≤ k ∧ k < (n : Int) := fun q => hb (q _ (List.getElem_mem hlt))
            exact HE.out.trans (if_neg this)
          clear HZ h HE
          generalize l[k] = t at *
          by_cases hb1 : t < 0
          · clear hb
            go_wp2_with fail
            go_ret
            exact ⟨by rw [HF.out]; rfl, rfl⟩
          · have hb2 : (n : Int) ≤ t := by omega
            clear hb
            go_wp2_with fail
            go_ret
            exact ⟨by rw [HF.out]; rfl, rfl⟩
      · obtain rfl : k = l.length := by omega
        have HF : Hid (Gr.pErr n l = 0) := by
          refine HE.out.trans (if_pos fun x hx => ?_)
          obtain ⟨j, hj, rfl⟩ := List.getElem_of_mem hx
          exact HZ.out j hj hj
        go_wp2_with fail
        go_ret
        exact ⟨by rw [HF.out]; rfl, rfl⟩

set_option maxHeartbeats 1000000 in
theorem rgraph_any (v : Value) (K : List (List Int)) (w : World) (h : Kz w v K) (hl : K.length ≤ 9223372036854775807) (hll : ∀ i, (Gr.kd K i).length ≤ 9223372036854775807) :
    Calls Try.prog 12 #[v] w fun e w' => e = .returned (.int .i64 (Gr.gErr K)) ∧ w' = w := by
  obtain ⟨a, c, rfl⟩ := h.slice
  by_cases h200 : 200 < K.length
  · have HE : Hid (Gr.gErr K = 2) := if_pos h200
    go_enter Try.func12, Try.ntmps12
    go_wp2_with fail
    go_ret
    exact ⟨by rw [HE.out]; rfl, rfl⟩
  · have HE : Hid (Gr.gErr K = Gr.gErrTo K K.length) := if_neg h200
    have HH : Hid (Kz w (.slice a K.length c) K) := h
    have HL : Hid (∀ i, (Gr.kd K i).length ≤ 9223372036854775807) := hll
    clear h hll
    go_enter Try.func12, Try.ntmps12
    go_wp2_with fail
    go_loop [11] (fun i => ∃ k : Nat, k ≤ K.length ∧ i = .int .i64 k ∧ Hid (∀ j, j < k → Gr.pErr K.length (Gr.kd K j) = 0)) (fun i => K.length - (intOf i).toNat)
    case atStart => exact ⟨0, by omega, rfl, fun j h => absurd h (by omega)⟩
    case round =>
      obtain ⟨k, hk, rfl, HZ⟩ := hrel
      by_cases hlt : k < K.length
      · obtain ⟨bk, o, a', c', rfl, -, hbk, c0, hi⟩ := HH.out.get k hlt
        have hp := rpoint_any _ _ K.length w hi (HL.out k)
        by_cases hz : Gr.pErr K.length (Gr.kd K k) = 0
        · have HN : Hid (∀ j, j < k + 1 → Gr.pErr K.length (Gr.kd K j) = 0) := fun j hj => by
            by_cases e : j = k
            · subst e; exact hz
            · exact HZ.out j (by omega)
          rw [hz] at hp
          clear HZ HE hz hi
          generalize Gr.kd K k = L at *
          go_wp2_with fail
          refine hp.mono ?_
          rintro e w1 ⟨rfl, rfl⟩
          go_wp2_with fail
          go_round
          case rel => exact ⟨k + 1, by omega, by go_num, HN⟩
          case measure => simp only [intOf]; omega
        · have HF : Hid (Gr.gErr K = Gr.pErr K.length (Gr.kd K k)) := HE.out.trans (Gr.gErrTo_first HZ.out hz _ hlt)
          have hzq : (Gr.pErr K.length (Gr.kd K k) != 0) = true := by simpa using hz
          clear HZ HE hz hi
          obtain ⟨z, hz⟩ : ∃ z, z = Gr.pErr K.length (Gr.kd K k) := ⟨_, rfl⟩
          rw [← hz] at hp hzq HF
          clear hz
          generalize Gr.kd K k = L at *
          go_wp2_with fail
          refine hp.mono ?_
          rintro e w1 ⟨rfl, rfl⟩
          go_wp2_with fail
          go_ret
          exact ⟨by rw [HF.out]; rfl, rfl⟩
      · obtain rfl : k = K.length := by omega
        have HF : Hid (Gr.gErr K = 0) := HE.out.trans (Gr.gErrTo_ok _ HZ.out)
        go_wp2_with fail
        go_ret
        exact ⟨by rw [HF.out]; rfl, rfl⟩

/-- a row of bools of one's own, the first block that was made -/
structure FR (w W : World) (n : Nat) (f : Nat → Bool) : Prop where
  bel : Below w.heap.size w W
  out : W.ownsRow w.heap.size 4 1 (.slice (some ⟨w.heap.size, 0, none⟩) n n) n ((fl n f).map Tb)

theorem FR.set {w W : World} {n : Nat} {f g : Nat → Bool} (h : FR w W n f) (k : Nat) (b : Bool) (hg : ∀ i, i < n → (if i = k then b else f i) = g i) : FR w (W.setCell ⟨w.heap.size, k, none⟩ (.bool b)) n g := by
  refine ⟨h.bel.setCell (Nat.le_refl _) _, ?_⟩
  have := bool_store h.out k b
  rwa [fl_set, fl_ext hg] at this

theorem FR.ext {w W : World} {n : Nat} {f g : Nat → Bool} (h : FR w W n f) (hg : ∀ i, i < n → f i = g i) : FR w W n g := ⟨h.bel, by rw [← fl_ext hg]; exact h.out⟩

theorem FR.at_ {w W : World} {n : Nat} {f : Nat → Bool} (h : FR w W n f) {k : Nat} (hk : k < n) : W.cell? ⟨w.heap.size, k, none⟩ = some (.bool (f k)) := by
  have := bool_at h.out k (by rw [fl_length]; exact hk)
  have e := fl_get n f hk
  rw [List.getElem?_eq_getElem (by rw [fl_length]; exact hk)] at e
  rw [this, Option.some.inj e]

theorem FR.fz {w W : World} {n : Nat} {f : Nat → Bool} (h : FR w W n f) (k : Nat) : W.frozen? ⟨w.heap.size, k, none⟩ = false := h.out.frozenAt k

theorem gr_rt_next (R : List Int) {m : Nat} {k : Nat} (hm : m < R.length) (e : R[m] = (k : Int)) (i : Nat) : (if i = k then true else Gr.rt (R.take m) i) = Gr.rt (R.take (m + 1)) i := by
  unfold Gr.rt
  rw [List.take_succ_eq_append_getElem hm, e]
  by_cases h : i = k
  · subst h; simp
  · rw [if_neg h, Bool.eq_iff_iff, decide_eq_true_eq, decide_eq_true_eq, List.mem_append, List.mem_singleton]
    exact ⟨.inl, fun q => q.resolve_right (by omega)⟩

set_option maxHeartbeats 4000000 in
theorem rreached_any (v u : Value) (K : List (List Int)) (R : List Int) (w : World) (h : Kz w v K) (hr : Ints w u R) (hK : Gr.Ok K) (hR : R.length ≤ 64) (hRi : ∀ k ∈ R, 0 ≤ k ∧ k < (K.length : Int)) :
    Calls Try.prog 21 #[v, u] w fun e w' => ∃ x, e = .returned x ∧ w'.ownsRow w.heap.size 4 1 x (Gr.rch K R).length ((Gr.rch K R).map Tb) ∧ Below w.heap.size w w' := by
  obtain ⟨j0, hj, hy0, hy1, hy2⟩ := info_parts info_bool
  obtain ⟨a, c, rfl⟩ := h.slice
  obtain ⟨a', c', rfl⟩ := hr.slice
  have HH : Hid (Kz w (.slice a K.length c) K) := h
  have HI : Hid (Ints w (.slice a' R.length c') R) := hr
  have HRi : Hid (∀ k ∈ R, 0 ≤ k ∧ k < (K.length : Int)) := hRi
  have HKi : Hid (∀ i, i < K.length → (Gr.kd K i).length ≤ 64 ∧ ∀ k ∈ Gr.kd K i, 0 ≤ k ∧ k < (K.length : Int)) := hK.kids
  have hn200 := hK.few
  clear h hr hRi hK
  go_enter Try.func21, Try.ntmps21
  go_wp2_with (at_make; refine wpList_make_full _ rfl (.tmp 13) (.tmp 13) 24 rfl w.heap.size 4 j0 (.bool false) 1 Try.underlying24 hj hy0 hy1 .i64 .i64 _ _ K.length rfl rfl rfl rfl (by rw [hy2]; omega) (by unfold maxLen; omega) (Nat.le_refl _) ?_; intro w4 hown hgrow)
  have hown1 := made_falses hown
  rw [fl_false] at hown1
  have HF0 : Hid (FR w w4 K.length (Gr.rt (R.take 0))) := by
    refine ⟨(Below.refl _ w).grown hgrow (Nat.le_refl _) (fun k hk => by cases hk), ?_⟩
    rw [← fl_ext (f := fun _ => false)]
    · exact hown1
    · intro i _; simp [Gr.rt]
  clear hown hgrow hown1
  go_wp2_with fail
  go_loopw [17] (fun i wr => ∃ m : Nat, m ≤ R.length ∧ i = .int .i64 m ∧ Hid (FR w wr K.length (Gr.rt (R.take m)))) (fun i _ => R.length - (intOf i).toNat)
  case atStart => exact ⟨0, by omega, rfl, HF0⟩
  case round =>
    obtain ⟨m, hm, rfl, HF⟩ := hrel
    by_cases hlt : m < R.length
    · obtain ⟨bk, o, rfl, -, hbk, c0⟩ := HI.out.get m hlt
      have c1 := (HF.out.bel.cell (p := ⟨bk, o + m, none⟩) hbk).trans c0
      have hb := HRi.out _ (List.getElem_mem hlt)
      obtain ⟨k, hk⟩ : ∃ k : Nat, R[m] = (k : Int) := ⟨R[m].toNat, by omega⟩
      have hkn : k < K.length := by omega
      have hki : (k : Int) < (K.length : Int) := by omega
      have x1 := HF.out.at_ hkn
      have x2 := HF.out.fz k
      have HF2 : Hid (FR w (wr.setCell ⟨w.heap.size, k, none⟩ (.bool true)) K.length (Gr.rt (R.take (m + 1)))) := HF.out.set k true fun i _ => gr_rt_next R hlt hk i
      rw [hk] at c1
      generalize Gr.rt (R.take m) k = z at *
      clear HF hk hb c0
      go_wp2_with fail
      go_roundw
      case rel => exact ⟨m + 1, by omega, by go_num, HF2⟩
      case measure => simp only [intOf]; omega
    · obtain rfl : m = R.length := by omega
      have HR0 : Hid (FR w wr K.length (Gr.rj K 0 (Gr.rt R))) := by
        have := HF.out
        rwa [List.take_length] at this
      clear HF HI
      go_wp2_with fail
      go_loopw [27] (fun i wr => ∃ j : Nat, j ≤ K.length ∧ i = .int .i64 j ∧ Hid (FR w wr K.length (Gr.rj K j (Gr.rt R)))) (fun i _ => K.length - (intOf i).toNat)
      case atStart => exact ⟨0, by omega, rfl, HR0⟩
      case round =>
        obtain ⟨j, hjn, rfl, HJ⟩ := hrel
        by_cases hlj : j < K.length
        · have HJ0 : Hid (FR w wr K.length (Gr.ri K 0 (Gr.rj K j (Gr.rt R)))) := HJ.out
          have HJn : Hid (Gr.rj K (j + 1) (Gr.rt R) = Gr.ri K K.length (Gr.rj K j (Gr.rt R))) := rfl
          generalize Gr.rj K j (Gr.rt R) = g at *
          clear HJ
          go_wp2_with fail
          go_loopw [31] (fun i wr => ∃ q : Nat, q ≤ K.length ∧ i = .int .i64 q ∧ Hid (FR w wr K.length (Gr.ri K q g))) (fun i _ => K.length - (intOf i).toNat)
          case atStart => exact ⟨0, by omega, rfl, HJ0⟩
          case round =>
            obtain ⟨q, hqn, rfl, HQ⟩ := hrel
            by_cases hlq : q < K.length
            · obtain ⟨bk, o, ka, kc, rfl, -, hbk, c0, hi⟩ := HH.out.get q hlq
              have c1 := (HQ.out.bel.cell (p := ⟨bk, o + q, none⟩) hbk).trans c0
              obtain ⟨hl64, hkids⟩ := HKi.out q hlq
              have HQ0 : Hid (FR w wr K.length (Gr.rk q (Gr.kd K q) 0 (Gr.ri K q g))) := HQ.out
              have HQn : Hid (Gr.ri K (q + 1) g = Gr.rk q (Gr.kd K q) (Gr.kd K q).length (Gr.ri K q g)) := rfl
              have HIq : Hid (Ints w (.slice ka (Gr.kd K q).length kc) (Gr.kd K q)) := hi
              have HKq : Hid (∀ k ∈ Gr.kd K q, 0 ≤ k ∧ k < (K.length : Int)) := hkids
              generalize Gr.ri K q g = g2 at *
              generalize Gr.kd K q = L at *
              clear HQ hkids hi c0
              go_wp2_with fail
              go_loopw [38] (fun i wr => ∃ m : Nat, m ≤ L.length ∧ i = .int .i64 m ∧ Hid (FR w wr K.length (Gr.rk q L m g2))) (fun i _ => L.length - (intOf i).toNat)
              case atStart => exact ⟨0, by omega, rfl, HQ0⟩
              case round =>
                obtain ⟨m, hm, rfl, HM⟩ := hrel
                by_cases hlm : m < L.length
                · obtain ⟨bk', o', rfl, -, hbk', d0⟩ := HIq.out.get m hlm
                  have d1 := (HM.out.bel.cell (p := ⟨bk', o' + m, none⟩) hbk').trans d0
                  have hb := HKq.out _ (List.getElem_mem hlm)
                  obtain ⟨k, hk⟩ : ∃ k : Nat, L[m] = (k : Int) := ⟨L[m].toNat, by omega⟩
                  have hkn : k < K.length := by omega
                  have hki : (k : Int) < (K.length : Int) := by omega
                  have hqi : (q : Int) < (K.length : Int) := by omega
                  have x1 := HM.out.at_ hkn
                  have x2 := HM.out.fz k
                  have y1 := HM.out.at_ hlq
                  have hgd : (L.getD m 0).toNat = k := by
                    rw [List.getD_eq_getElem?_getD, List.getElem?_eq_getElem hlm]
                    show L[m].toNat = k
                    omega
                  have HMn : Hid (Gr.rk q L (m + 1) g2 = if Gr.rk q L m g2 q then Gr.up (Gr.rk q L m g2) k else Gr.rk q L m g2) := by
                    rw [← hgd]; rfl
                  rw [hk] at d1
                  clear hgd hk hb d0
                  by_cases hz : Gr.rk q L m g2 q = true
                  · have HF2 : Hid (FR w (wr.setCell ⟨w.heap.size, k, none⟩ (.bool true)) K.length (Gr.rk q L (m + 1) g2)) := by
                      rw [HMn.out, if_pos hz]
                      exact HM.out.set k true fun i _ => rfl
                    rw [hz] at y1
                    generalize Gr.rk q L m g2 k = zk at *
                    clear HM HMn hz
                    go_wp2_with fail
                    go_roundw
                    case rel => exact ⟨m + 1, by omega, by go_num, HF2⟩
                    case measure => simp only [intOf]; omega
                  · have HF2 : Hid (FR w wr K.length (Gr.rk q L (m + 1) g2)) := by
                      rw [HMn.out, if_neg hz]
                      exact HM.out
                    have hz' : Gr.rk q L m g2 q = false := by simpa using hz
                    rw [hz'] at y1
                    generalize Gr.rk q L m g2 k = zk at *
                    clear HM HMn hz hz'
                    go_wp2_with fail
                    go_roundw
                    case rel => exact ⟨m + 1, by omega, by go_num, HF2⟩
                    case measure => simp only [intOf]; omega
                · obtain rfl : m = L.length := by omega
                  have HF2 : Hid (FR w wr K.length (Gr.ri K (q + 1) g)) := by rw [HQn.out]; exact HM.out
                  clear HM
                  go_wp2_with fail
                  go_roundw
                  case rel => exact ⟨q + 1, by omega, by go_num, HF2⟩
                  case measure => simp only [intOf]; omega
            · obtain rfl : q = K.length := by omega
              have HF2 : Hid (FR w wr K.length (Gr.rj K (j + 1) (Gr.rt R))) := by rw [HJn.out]; exact HQ.out
              clear HQ
              go_wp2_with fail
              go_roundw
              case rel => exact ⟨j + 1, by omega, by go_num, HF2⟩
              case measure => simp only [intOf]; omega
        · obtain rfl : j = K.length := by omega
          have HO : Hid (wr.ownsRow w.heap.size 4 1 (.slice (some ⟨w.heap.size, 0, none⟩) K.length K.length) (Gr.rch K R).length ((Gr.rch K R).map Tb)) := by
            rw [Gr.rch_length]; exact HJ.out.out
          have HB : Hid (Below w.heap.size w wr) := HJ.out.bel
          clear HJ
          go_wp2_with fail
          go_ret
          exact ⟨_, rfl, HO.out, HB.out⟩

end Go.Proofs.Ytoibiaikbgkbpaa
