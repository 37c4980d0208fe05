/-
  What appendNumber and Text of package index answer.
-/
import Derived.Test.YtllioidjelgafabPlChk
import Derived.Test.YtllioidjelgafabPut
import Derived.Test.YtllioidjelgafabKept
import Derived.Lib.AppendStr
import Derived.Deep.Cut
import Derived.Deep.MidRow
namespace Go.Proofs.Ytllioidjelgafab
open Go.RowKit
set_option maxRecDepth 4000

theorem ixown_form {base : Nat} {e : TypeId} {k n : Nat} {v : Value} {xs : List Value} {w : World} (h : w.ownsRow base e k v n xs) : ∃ a c, v = .slice a n c := by
  rcases h.2 with ⟨rfl, h0⟩ | ⟨g, cap, cur, rfl, _⟩
  · subst h0; exact ⟨_, _, rfl⟩
  · exact ⟨_, _, rfl⟩
theorem ixown_below {base : Nat} {e : TypeId} {k : Nat} {v : Value} {n : Nat} {xs : List Value} {w w' : World} (h : w.ownsRow base e k v n xs) (hb : Below w.heap.size w w') : w'.ownsRow base e k v n xs := by
  refine ⟨h.1, ?_⟩
  rcases h.2 with h' | ⟨g, cap, cur, h1, h2, h3, h4⟩
  · exact .inl h'
  · exact .inr ⟨g, cap, cur, h1, h2, (hb.block g (Array.getElem?_eq_some_iff.1 h3).1).trans h3, h4⟩
theorem info3 {P : Program} {e : TypeId} {z : Option Value} {s b : Nat} (h : (P.info? e).map (fun i => (i.zero, i.size, i.bytes)) = some (z, s, b)) : ∃ i, P.info? e = some i ∧ i.zero = z ∧ i.size = s ∧ i.bytes = b := by
  cases hi : P.info? e with
  | none => rw [hi] at h; cases h
  | some i =>
    rw [hi] at h
    simp only [Option.map_some, Option.some.injEq, Prod.mk.injEq] at h
    exact ⟨i, rfl, h.1, h.2.1, h.2.2⟩

set_option maxHeartbeats 1000000 in
theorem ixanum_any (base : Nat) (v : Value) (xs : List UInt8) (n : Nat) (w : World) (hown : w.ownsRow base 5 1 v xs.length (xs.map B)) (hb : base ≤ w.heap.size) (hx : xs.length ≤ 1048576) (hn : n ≤ 1099511627776) :
    Calls Try.prog 19 #[v, .int .i64 n] w fun e w' => ∃ v', e = .returned v' ∧ w'.ownsRow base 5 1 v' (xs ++ Nm.put n).length ((xs ++ Nm.put n).map B) ∧ Below base w w' ∧ Kept (fun k => v.ownBlock ≠ some k) w w' := by
  obtain ⟨i0, hi, hz0, hz1, hz2⟩ := info3 info_u8
  obtain ⟨a, c, rfl⟩ := ixown_form hown
  have hp := num_put n w (by omega) (by omega)
  rw [Int.toNat_natCast] at hp
  have hl := Nm.dig_length_le n
  go_enter Try.func19, Try.ntmps19
  go_wp2_with fail
  refine hp.mono ?_
  rintro e w1 ⟨rfl, hb1⟩
  have hown1 := ixown_below hown hb1
  have hB1 : Below base w w1 := hb1.mono hb
  have hs1 := hB1.size
  have hpl : (Nm.put n).length ≤ 9 := by unfold Nm.put; simp only [List.length_cons]; omega
  have HPS : Hid ((⟨(Nm.put n).toArray⟩ : ByteArray).size = (Nm.put n).length) := by show (Nm.put n).toArray.size = _; rw [List.size_toArray]
  have HK1 : Hid (Kept (fun k => (Value.slice a xs.length c).ownBlock ≠ some k) w w1) := Kept.of_below hb1
  clear hp hb1 hown
  obtain ⟨S, hS⟩ : ∃ S : ByteArray, (⟨(Nm.put n).toArray⟩ : ByteArray) = S := ⟨_, rfl⟩
  have HS : Hid (Lib.strCells S = (Nm.put n).map B ∧ S.size = (Nm.put n).length) := by rw [← hS]; exact ⟨rfl, HPS.out⟩
  have hSz : S.size ≤ 9 := by rw [HS.out.2]; exact hpl
  rw [hS]
  clear hS HPS hpl
  go_wp2_with (at_builtin; refine Lib.wpList_append_own_string _ rfl (.tmp 5) (.tmp 8) 49 9 rfl base 5 i0 Try.underlying49 Try.underlying9 hi hz0 hz1 hz2 _ _ _ rfl hown1 S rfl ?c3 ?c4 ?c5 ?_)
  case c3 => unfold maxLen; omega
  case c4 => omega
  case c5 => omega
  intro v1 w3 hown3 hgrow _
  have HO : Hid (w3.ownsRow base 5 1 v1 (xs ++ Nm.put n).length ((xs ++ Nm.put n).map B)) := by
    rw [HS.out.1, HS.out.2] at hown3
    rw [List.length_append, List.map_append]
    exact hown3
  have HB3 : Hid (Below base w w3) := hB1.grown hgrow (by omega) fun j hj => (hown1.lt j hj).1
  have HK3 : Hid (Kept (fun k => (Value.slice a xs.length c).ownBlock ≠ some k) w w3) := HK1.out.grown hgrow fun k hk hp => hp hk
  clear hown3 hgrow hown1 hB1
  go_wp2_with fail
  go_ret
  exact ⟨_, rfl, HO.out, HB3.out, HK3.out⟩

/-- a block of places is none of bytes -/
theorem own_apart {base n G : Nat} {v : Value} {xs : List Value} {W : World} {cs : Array Value} (h : W.ownsRow base 5 1 v n xs) (hG : W.heap[G]? = some (.cells cs 29 (0, 0))) : v.ownBlock ≠ some G := by
  intro e
  rcases h.2 with ⟨rfl, _⟩ | ⟨g, cap, cur, rfl, _, hh, _⟩
  · simp [Value.ownBlock] at e
  · simp only [Value.ownBlock, Option.some.injEq] at e
    subst e
    rw [hG] at hh
    simp at hh
theorem at12_of_block {W : World} {G : Nat} {b0 b1 b2 b3 b4 b5 b6 b7 : UInt8} {k p a l : Int} (h : W.heap[G]? = some (.cells (pl12 b0 b1 b2 b3 b4 b5 b6 b7 k p a l) 29 (0, 0))) : At12 W G 0 b0 b1 b2 b3 b4 b5 b6 b7 k p a l := by
  have e : ∀ q, W.cell? ⟨G, q, none⟩ = (pl12 b0 b1 b2 b3 b4 b5 b6 b7 k p a l)[q]? := fun q => cell_of_row _ G q _ _ _ h
  exact ⟨e 0, e 1, e 2, e 3, e 4, e 5, e 6, e 7, e 8, e 9, e 10, e 11⟩
theorem put9 (n : Nat) : (Nm.put n).length ≤ 9 := by
  have := Nm.dig_length_le n
  unfold Nm.put
  simp only [List.length_cons]
  omega
theorem rowT_more {l : List Plc} {k : Nat} {t : Plc} (h : l[k]? = some t) : Ix.rowsT (ps (l.take (k + 1))) = Ix.rowsT (ps (l.take k)) ++ Ix.rowT t.p := by
  rw [List.take_add_one, h]
  simp [Ix.rowsT]

set_option maxHeartbeats 8000000 in
theorem text_any (v : Value) (l : List Plc) (w : World) (h : Px w v l) (hl : l.length ≤ 140737488351232) :
    Calls Try.prog 5 #[v] w fun e w' => ∃ s : ByteArray, e = .returned (.tuple #[.string s, .int .i64 (Ix.check (ps l))]) ∧ s.data.toList = (if Ix.check (ps l) = 0 then Ix.textB (ps l) else []) ∧ Below w.heap.size w w' := by
  obtain ⟨i0, hi, hz0, hz1, hz2⟩ := info3 info_u8
  obtain ⟨a, c, rfl, hc1, hc2⟩ := h.slice
  have hck := check_any _ l w h hl
  by_cases ec : Ix.check (ps l) = 0
  · rw [ec] at hck ⊢
    rw [if_pos rfl]
    have LA : l.length ≤ 400 := by have := (Ix.check_ok.1 ec).1; rwa [List.length_map] at this
    have HOK : Hid (∀ t ∈ l, Ix.plErr t.p = 0) := fun t ht => (Ix.check_ok.1 ec).2.1 _ (List.mem_map_of_mem ht)
    have HH : Hid (Px w (.slice a l.length c) l) := h
    obtain ⟨N0, hN0⟩ : ∃ N, Nm.put l.length = N := ⟨_, rfl⟩
    have HN0 : Hid (Nm.put l.length = N0) := hN0
    have h90 : N0.length ≤ 9 := by rw [← hN0]; exact put9 _
    have hn0 : ∀ W, Calls Try.prog 19 #[.slice none 0 0, .int .i64 l.length] W fun e w' => ∃ v', e = .returned v' ∧ w'.ownsRow W.heap.size 5 1 v' N0.length (N0.map B) ∧ Below W.heap.size W w' := fun W => by
      have := ixanum_any W.heap.size (.slice none 0 0) [] l.length W (World.ownsRow_nil _ _ _ _) (Nat.le_refl _) (by simp) (by omega)
      rw [List.nil_append, hN0] at this
      exact this.mono fun e w' ⟨v', h1, h2, h3, _⟩ => ⟨v', h1, h2, h3⟩
    clear hN0
    have hna := fun base v xs n W h1 h2 h3 h4 => ixanum_any base v xs n W h1 h2 h3 h4
    clear h ec
    go_enter Try.func5, Try.ntmps5
    go_upto_region 5 with (first | (go_at_call 18; refine hck.mono ?_; rintro e w1 ⟨rfl, b1⟩) | (go_at_call 19; refine (hn0 _).mono ?_; rintro e w2 ⟨v2, rfl, o2, b2⟩))
    obtain ⟨s2, c2, hv2⟩ := ixown_form o2
    subst hv2
    have HB2 : Hid (Below w.heap.size w w2) := b1.trans (b2.mono b1.size)
    have HO2 : Hid (w2.ownsRow w1.heap.size 5 1 (.slice s2 (N0).length c2) (N0 ++ Ix.rowsT (ps (l.take 0))).length ((N0 ++ Ix.rowsT (ps (l.take 0))).map B)) := by
      show World.ownsRow _ _ _ _ _ _ _
      rw [List.take_zero]
      simpa [Ix.rowsT] using o2
    have HW1 : Hid (w.heap.size ≤ w1.heap.size ∧ w1.heap.size ≤ w2.heap.size) := ⟨b1.size, b2.size⟩
    clear b1 b2 hck hn0 o2
    go_wp2_with fail
    go_loopw [5, 18] (fun vo i wr => ∃ k : Nat, k ≤ l.length ∧ i = .int .i64 k ∧ Hid (wr.ownsRow w1.heap.size 5 1 vo (N0 ++ Ix.rowsT (ps (l.take k))).length ((N0 ++ Ix.rowsT (ps (l.take k))).map B)) ∧ Hid ((N0 ++ Ix.rowsT (ps (l.take k))).length ≤ 9 + 36 * k) ∧ Hid (Below w.heap.size w wr) ∧ Hid (w1.heap.size ≤ wr.heap.size)) (fun _ i _ => l.length - (intOf i).toNat)
    case atStart => exact ⟨0, by omega, rfl, HO2, by show List.length _ ≤ _; rw [List.take_zero]; simpa [Ix.rowsT] using h90, HB2, HW1.out.2⟩
    case round =>
      obtain ⟨k, hk, rfl, hown, hlen, hbel, hsz⟩ := hrel
      clear HO2 HB2
      by_cases hlt : k < l.length
      · obtain ⟨t, ht⟩ : ∃ t, l[k]? = some t := ⟨_, List.getElem?_eq_getElem hlt⟩
        obtain ⟨b0, b1, b2, b3, b4, b5, b6, b7, k1, p1, a1, l1, ht12⟩ := t.as12
        have hok := Ix.plErr_ok (HOK.out t (List.mem_of_getElem? ht))
        rw [ht12] at hok
        simp only [Plc.p] at hok
        obtain ⟨hk3, hp0, hp1, ha0, ha1, hl0, hl1⟩ := hok
        obtain ⟨kn, rfl⟩ : ∃ kn : Nat, k1 = (kn : Int) := Int.eq_ofNat_of_zero_le (by omega)
        obtain ⟨pn, rfl⟩ := Int.eq_ofNat_of_zero_le hp0
        obtain ⟨an, rfl⟩ := Int.eq_ofNat_of_zero_le ha0
        obtain ⟨ln, rfl⟩ := Int.eq_ofNat_of_zero_le hl0
        have hkn : kn ≤ 3 := by omega
        have hpn : pn ≤ 1099511627776 := by omega
        have han : an ≤ 1099511627776 := by omega
        have hln : ln ≤ 1099511627776 := by omega
        have HM : Hid (N0 ++ Ix.rowsT (ps (l.take (k + 1))) = ((((N0 ++ Ix.rowsT (ps (l.take k))) ++ [b0, b1, b2, b3, b4, b5, b6, b7]) ++ [UInt8.ofNat kn]) ++ Nm.put pn ++ Nm.put an ++ Nm.put ln)) := by
          show _ = _
          rw [rowT_more ht, ht12]
          simp [Ix.rowT, Plc.p]
        rw [ht12] at ht
        obtain ⟨bk, o, hao, hbk, hat⟩ := (HH.out.below hbel.out).twelve k ht
        subst hao
        obtain ⟨S, hS⟩ : ∃ S, N0 ++ Ix.rowsT (ps (l.take k)) = S := ⟨_, rfl⟩
        rw [hS] at hown hlen HM
        have hSl : S.length ≤ 9 + 36 * k := hlen
        obtain ⟨so, co, hvo⟩ := ixown_form hown.out
        subst hvo
        have x0 : wr.cell? ⟨bk, o + k * 12, none⟩ = some (.int .u8 (b0.toNat : Int)) := hat.c0
        have x1 : wr.cell? ⟨bk, o + k * 12 + 1, none⟩ = some (.int .u8 (b1.toNat : Int)) := hat.c1
        have x2 : wr.cell? ⟨bk, o + k * 12 + 2, none⟩ = some (.int .u8 (b2.toNat : Int)) := hat.c2
        have x3 : wr.cell? ⟨bk, o + k * 12 + 3, none⟩ = some (.int .u8 (b3.toNat : Int)) := hat.c3
        have x4 : wr.cell? ⟨bk, o + k * 12 + 4, none⟩ = some (.int .u8 (b4.toNat : Int)) := hat.c4
        have x5 : wr.cell? ⟨bk, o + k * 12 + 5, none⟩ = some (.int .u8 (b5.toNat : Int)) := hat.c5
        have x6 : wr.cell? ⟨bk, o + k * 12 + 6, none⟩ = some (.int .u8 (b6.toNat : Int)) := hat.c6
        have x7 : wr.cell? ⟨bk, o + k * 12 + 7, none⟩ = some (.int .u8 (b7.toNat : Int)) := hat.c7
        have x8 : wr.cell? ⟨bk, o + k * 12 + 8, none⟩ = some (.int .i64 (kn : Int)) := hat.c8
        have x9 : wr.cell? ⟨bk, o + k * 12 + 9, none⟩ = some (.int .i64 (pn : Int)) := hat.c9
        have x10 : wr.cell? ⟨bk, o + k * 12 + 10, none⟩ = some (.int .i64 (an : Int)) := hat.c10
        have x11 : wr.cell? ⟨bk, o + k * 12 + 11, none⟩ = some (.int .i64 (ln : Int)) := hat.c11
        clear hat ht ht12 hS hk3 hp0 hp1 ha0 ha1 hl0 hl1 hlen
        have HG7 : Hid ((wr.alloc (.cells (pl12 b0 b1 b2 b3 b4 b5 b6 b7 (kn : Int) (pn : Int) (an : Int) (ln : Int)) 29)).heap[wr.heap.size]? = some (.cells (pl12 b0 b1 b2 b3 b4 b5 b6 b7 (kn : Int) (pn : Int) (an : Int) (ln : Int)) 29 (0, 0))) := heap_alloc_new wr _
        have HB7 : Hid (Below w.heap.size w (wr.alloc (.cells (pl12 b0 b1 b2 b3 b4 b5 b6 b7 (kn : Int) (pn : Int) (an : Int) (ln : Int)) 29))) := hbel.out.alloc hbel.out.size _
        have HO7 : Hid ((wr.alloc (.cells (pl12 b0 b1 b2 b3 b4 b5 b6 b7 (kn : Int) (pn : Int) (an : Int) (ln : Int)) 29)).ownsRow w1.heap.size 5 1 (.slice so S.length co) S.length (S.map B)) := hown.out.alloc _
        have HZ7 : Hid ((wr.alloc (.cells (pl12 b0 b1 b2 b3 b4 b5 b6 b7 (kn : Int) (pn : Int) (an : Int) (ln : Int)) 29)).heap.size = wr.heap.size + 1) := by show (wr.heap.push _).size = _; simp
        go_upto_region 8 with fail
        generalize hW7 : wr.alloc (.cells (pl12 b0 b1 b2 b3 b4 b5 b6 b7 (kn : Int) (pn : Int) (an : Int) (ln : Int)) 29) = w7 at *
        clear hW7 x0 x1 x2 x3 x4 x5 x6 x7 x8 x9 x10 x11 hown hbel
        have hat7 := at12_of_block HG7.out
        have y8 : w7.cell? ⟨wr.heap.size, 8, none⟩ = some (.int .i64 (kn : Int)) := hat7.c8
        have hnews : ∀ j u, ([b0, b1, b2, b3, b4, b5, b6, b7].map B)[j]? = some u → w7.cell? ((⟨wr.heap.size, 0, none⟩ : Addr).add j) = some u := fun j u hu => by
          rw [show ((⟨wr.heap.size, 0, none⟩ : Addr).add j) = ⟨wr.heap.size, 0 + j, none⟩ from Addr.add_mid _ _ _, Nat.zero_add, cell_of_row _ wr.heap.size j _ _ _ HG7.out]
          match j, hu with
          | 0, hu => exact hu
          | 1, hu => exact hu
          | 2, hu => exact hu
          | 3, hu => exact hu
          | 4, hu => exact hu
          | 5, hu => exact hu
          | 6, hu => exact hu
          | 7, hu => exact hu
          | n + 8, hu => simp at hu
        have hsz7 : w1.heap.size ≤ w7.heap.size := by rw [HZ7.out]; have := hsz.out; omega
        have hown7 := HO7.out
        clear hat7
        go_wp2_with (at_builtin; refine wpList_append_own _ rfl (.tmp 22) (.tmp 24) 49 rfl w1.heap.size 5 i0 (.int .u8 0) 1 1 Try.underlying49 hi hz0 hz1 hz2 rfl (by decide) _ _ _ rfl hown7 ⟨wr.heap.size, 0, none⟩ 8 8 ([b0, b1, b2, b3, b4, b5, b6, b7].map B) rfl rfl hnews ?c2 ?c3 ?c4 ?c5 ?_)
        case c2 => intro u hu; obtain ⟨x, _, rfl⟩ := List.mem_map.1 hu; rfl
        case c3 => unfold maxLen; omega
        case c4 => omega
        case c5 => exact hsz7
        intro v8 w8 o8 hgrow _
        have HG8 : Hid (w8.heap[wr.heap.size]? = some (.cells (pl12 b0 b1 b2 b3 b4 b5 b6 b7 (kn : Int) (pn : Int) (an : Int) (ln : Int)) 29 (0, 0))) := (hgrow.block _ (by rw [HZ7.out]; omega) (fun e => own_apart hown7 HG7.out e.symm)).trans HG7.out
        have HB8 : Hid (Below w.heap.size w w8) := HB7.out.grown hgrow HB7.out.size fun j hj => Nat.le_trans HW1.out.1 (hown7.lt j hj).1
        have hsz8 : w1.heap.size ≤ w8.heap.size := Nat.le_trans hsz7 hgrow.size
        have HO8 : Hid (w8.ownsRow w1.heap.size 5 1 v8 (S ++ [b0, b1, b2, b3, b4, b5, b6, b7]).length ((S ++ [b0, b1, b2, b3, b4, b5, b6, b7]).map B)) := by rw [List.length_append, List.map_append]; exact o8
        obtain ⟨s8, c8, hv8⟩ := ixown_form o8
        subst hv8
        clear o8 hgrow hown7 HO7 HG7 HB7 HZ7 hnews hsz7 y8
        go_upto_region 9 with fail
        have hat8 := at12_of_block HG8.out
        have z8 : w8.cell? ⟨wr.heap.size, 8, none⟩ = some (.int .i64 (kn : Int)) := hat8.c8
        clear hat8
        have HB9 : Hid (Below w.heap.size w (w8.alloc (.cells #[.int .u8 (kn : Int)] 5))) := HB8.out.alloc HB8.out.size _
        have HZ9 : Hid ((w8.alloc (.cells #[.int .u8 (kn : Int)] 5)).heap.size = w8.heap.size + 1) := by show (w8.heap.push _).size = _; simp
        have HG9 : Hid ((w8.alloc (.cells #[.int .u8 (kn : Int)] 5)).heap[wr.heap.size]? = some (.cells (pl12 b0 b1 b2 b3 b4 b5 b6 b7 (kn : Int) (pn : Int) (an : Int) (ln : Int)) 29 (0, 0))) := (((Below.refl w8.heap.size w8).alloc (Nat.le_refl _) _).block _ (Array.getElem?_eq_some_iff.1 HG8.out).1).trans HG8.out
        have hown9 : (w8.alloc (.cells #[.int .u8 (kn : Int)] 5)).ownsRow w1.heap.size 5 1 (.slice s8 (S.length + 8) c8) (S.length + 8) ((S ++ [b0, b1, b2, b3, b4, b5, b6, b7]).map B) := by
          have := HO8.out.alloc (.cells #[.int .u8 (kn : Int)] 5)
          simpa using this
        have hnews9 : ∀ j u, ([.int .u8 (kn : Int)] : List Value)[j]? = some u → (w8.alloc (.cells #[.int .u8 (kn : Int)] 5)).cell? ((⟨w8.heap.size, 0, none⟩ : Addr).add j) = some u := fun j u hu => by
          rw [show ((⟨w8.heap.size, 0, none⟩ : Addr).add j) = ⟨w8.heap.size, 0 + j, none⟩ from Addr.add_mid _ _ _, Nat.zero_add, cell_of_row _ w8.heap.size j _ _ _ (heap_alloc_new w8 _)]
          simpa using hu
        have hsz9 : w1.heap.size ≤ w8.heap.size + 1 := by omega
        clear HO8
        go_wp2_with (at_builtin; refine wpList_append_own _ rfl (.tmp 26) (.tmp 30) 49 rfl w1.heap.size 5 i0 (.int .u8 0) 1 1 Try.underlying49 hi hz0 hz1 hz2 rfl (by decide) _ _ _ rfl hown9 ⟨w8.heap.size, 0, none⟩ 1 1 [.int .u8 (kn : Int)] rfl rfl hnews9 ?c2 ?c3 ?c4 ?c5 ?_)
        case c2 => first | rfl | (intro u hu; rw [List.mem_singleton.1 hu]; rfl)
        case c3 => unfold maxLen; omega
        case c4 => omega
        case c5 => first | exact hsz9 | (rw [HZ9.out]; exact hsz9)
        intro v10 w10 o10 hgrow10 _
        have HG10 : Hid (w10.heap[wr.heap.size]? = some (.cells (pl12 b0 b1 b2 b3 b4 b5 b6 b7 (kn : Int) (pn : Int) (an : Int) (ln : Int)) 29 (0, 0))) := (hgrow10.block _ (Array.getElem?_eq_some_iff.1 HG9.out).1 (fun e => own_apart hown9 HG9.out e.symm)).trans HG9.out
        have HB10 : Hid (Below w.heap.size w w10) := HB9.out.grown hgrow10 HB9.out.size fun j hj => Nat.le_trans HW1.out.1 (hown9.lt j hj).1
        have hsz10 : w1.heap.size ≤ w10.heap.size := Nat.le_trans (by rw [HZ9.out]; omega) hgrow10.size
        have HO10 : Hid (w10.ownsRow w1.heap.size 5 1 v10 ((S ++ [b0, b1, b2, b3, b4, b5, b6, b7]) ++ [UInt8.ofNat kn]).length (((S ++ [b0, b1, b2, b3, b4, b5, b6, b7]) ++ [UInt8.ofNat kn]).map B)) := by
          have ekn : B (UInt8.ofNat kn) = .int .u8 (kn : Int) := by unfold B; rw [UInt8.toNat_ofNat', Nat.mod_eq_of_lt (by omega)]
          have e1 : ((S ++ [b0, b1, b2, b3, b4, b5, b6, b7]) ++ [UInt8.ofNat kn]).length = S.length + 8 + 1 := by simp
          have e2 : ((S ++ [b0, b1, b2, b3, b4, b5, b6, b7]) ++ [UInt8.ofNat kn]).map B = S.map B ++ [B b0, B b1, B b2, B b3, B b4, B b5, B b6, B b7, .int .u8 (kn : Int)] := by rw [← ekn]; simp
          show World.ownsRow _ _ _ _ _ _ _
          rw [e1, e2]
          exact o10
        obtain ⟨T10, hT10⟩ : ∃ T, (S ++ [b0, b1, b2, b3, b4, b5, b6, b7]) ++ [UInt8.ofNat kn] = T := ⟨_, rfl⟩
        have hl10 : T10.length = S.length + 9 := by rw [← hT10]; simp
        have HM10 : Hid (N0 ++ Ix.rowsT (ps (l.take (k + 1))) = T10 ++ Nm.put pn ++ Nm.put an ++ Nm.put ln) := by rw [← hT10]; exact HM.out
        rw [hT10] at HO10
        obtain ⟨s10, c10, hv10⟩ := ixown_form HO10.out
        subst hv10
        have HL10 : Hid (T10.length = S.length + 9) := hl10
        have hb10 : T10.length ≤ 1048576 := by omega
        clear o10 hgrow10 hown9 HG9 HB9 HZ9 hnews9 hsz9 hsz8 HG8 HB8 z8 hT10 hl10 HM
        have hat10 := at12_of_block HG10.out
        have z9 : w10.cell? ⟨wr.heap.size, 9, none⟩ = some (.int .i64 (pn : Int)) := hat10.c9
        clear hat10
        go_upto_region 11 with (go_at_call 19; refine (hna w1.heap.size _ T10 pn _ HO10.out hsz10 hb10 hpn).mono ?_; rintro e w11 ⟨v11, rfl, o11, b11, k11⟩)
        have HG11 : Hid (w11.heap[wr.heap.size]? = some (.cells (pl12 b0 b1 b2 b3 b4 b5 b6 b7 (kn : Int) (pn : Int) (an : Int) (ln : Int)) 29 (0, 0))) := k11.obj (own_apart HO10.out HG10.out) HG10.out
        have HB11 : Hid (Below w.heap.size w w11) := HB10.out.trans (b11.mono HW1.out.1)
        have hsz11 : w1.heap.size ≤ w11.heap.size := Nat.le_trans hsz10 b11.size
        obtain ⟨T11, hT11⟩ : ∃ T, T10 ++ Nm.put pn = T := ⟨_, rfl⟩
        have HT11 : Hid (T10 ++ Nm.put pn = T11) := hT11
        have hl11 : T11.length ≤ S.length + 18 := by rw [← hT11, List.length_append, HL10.out]; have := put9 pn; omega
        rw [hT11] at o11
        have HO11 : Hid (w11.ownsRow w1.heap.size 5 1 v11 T11.length (T11.map B)) := o11
        obtain ⟨s11, c11, hv11⟩ := ixown_form o11
        subst hv11
        have hb11 : T11.length ≤ 1048576 := by omega
        clear hT11
        clear o11 b11 k11 hsz10 HG10 HB10 HO10 z9
        have hat11 := at12_of_block HG11.out
        have z10 : w11.cell? ⟨wr.heap.size, 10, none⟩ = some (.int .i64 (an : Int)) := hat11.c10
        clear hat11
        go_upto_region 12 with (go_at_call 19; refine (hna w1.heap.size _ T11 an _ HO11.out hsz11 hb11 han).mono ?_; rintro e w12 ⟨v12, rfl, o12, b12, k12⟩)
        have HG12 : Hid (w12.heap[wr.heap.size]? = some (.cells (pl12 b0 b1 b2 b3 b4 b5 b6 b7 (kn : Int) (pn : Int) (an : Int) (ln : Int)) 29 (0, 0))) := k12.obj (own_apart HO11.out HG11.out) HG11.out
        have HB12 : Hid (Below w.heap.size w w12) := HB11.out.trans (b12.mono HW1.out.1)
        have hsz12 : w1.heap.size ≤ w12.heap.size := Nat.le_trans hsz11 b12.size
        obtain ⟨T12, hT12⟩ : ∃ T, T11 ++ Nm.put an = T := ⟨_, rfl⟩
        have HT12 : Hid (T11 ++ Nm.put an = T12) := hT12
        have HL12 : Hid (T12.length ≤ S.length + 27) := by show T12.length ≤ _; rw [← hT12, List.length_append]; have := put9 an; omega
        rw [hT12] at o12
        have HO12 : Hid (w12.ownsRow w1.heap.size 5 1 v12 T12.length (T12.map B)) := o12
        obtain ⟨s12, c12, hv12⟩ := ixown_form o12
        subst hv12
        have hb12 : T12.length ≤ 1048576 := by have := HL12.out; omega
        clear hT12
        clear o12 b12 k12 hsz11 HG11 HB11 HO11 hb11 z10
        have hat12 := at12_of_block HG12.out
        have z11 : w12.cell? ⟨wr.heap.size, 11, none⟩ = some (.int .i64 (ln : Int)) := hat12.c11
        clear hat12
        go_upto_region 13 with (go_at_call 19; refine (hna w1.heap.size _ T12 ln _ HO12.out hsz12 hb12 hln).mono ?_; rintro e w13 ⟨v13, rfl, o13, b13, k13⟩)
        have HB13 : Hid (Below w.heap.size w w13) := HB12.out.trans (b13.mono HW1.out.1)
        have HZ13 : Hid (w1.heap.size ≤ w13.heap.size) := Nat.le_trans hsz12 b13.size
        have HO13 : Hid (w13.ownsRow w1.heap.size 5 1 v13 (N0 ++ Ix.rowsT (ps (l.take (k + 1)))).length ((N0 ++ Ix.rowsT (ps (l.take (k + 1)))).map B)) := by rw [HM10.out, HT11.out, HT12.out]; exact o13
        have HL13 : Hid ((N0 ++ Ix.rowsT (ps (l.take (k + 1)))).length ≤ 9 + 36 * (k + 1)) := by
          show List.length _ ≤ _
          rw [HM10.out, HT11.out, HT12.out, List.length_append]
          have := put9 ln
          have := HL12.out
          omega
        clear o13 b13 k13 hsz12 HG12 HB12 HO12 hb12 hb10 HL10 HM10 hna z11
        go_wp2_with fail
        go_roundw
        case rel => exact ⟨k + 1, by omega, by go_num, HO13, HL13, HB13, HZ13⟩
        case measure => simp only [intOf]; omega
      · have hke : l.take k = l := List.take_of_length_le (by omega)
        rw [hke] at hown
        have hcv := run_str hown.out
        have HT : Hid (N0 ++ Ix.rowsT (ps l) = Ix.textB (ps l)) := by show _ = _; unfold Ix.textB; rw [List.length_map, HN0.out]
        clear hke hown hlen hna
        generalize N0 ++ Ix.rowsT (ps l) = S at *
        go_wp2_with fail
        go_ret2
        exact ⟨⟨S.toArray⟩, rfl, HT.out, hbel.out⟩
  · obtain ⟨er, her⟩ : ∃ er, Ix.check (ps l) = er := ⟨_, rfl⟩
    rw [her] at hck ec ⊢
    rw [if_neg ec]
    have he2 : (er == 0) = false := by simpa using ec
    clear ec her h
    go_enter Try.func5, Try.ntmps5
    go_wp2_with (go_at_call 18; refine hck.mono ?_; rintro e w1 ⟨rfl, b1⟩)
    go_ret2
    exact ⟨⟨#[]⟩, rfl, rfl, b1⟩
end Go.Proofs.Ytllioidjelgafab
