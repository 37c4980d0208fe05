/-
  The walk of the statement IndexFinds: it answers true.
-/
import Derived.Test.YtllioidjelgafaaPlFind2
import Derived.Test.YtllioidjelgafaaPlCont
import Derived.Test.YtllioidjelgafaaPlTell
import Derived.Test.YtllioidjelgafaaPlOpen
import Derived.Test.YtllioidjelgafaaRest
import Derived.Deep.Upon
namespace Go.Proofs.Ytllioidjelgafaa
open Go.RowKit
set_option maxRecDepth 4000

theorem fnd_sp : fndP [sp1] [1, 0, 0, 0, 0, 0, 0, 0] = sp1 ∧ fndE [sp1] [1, 0, 0, 0, 0, 0, 0, 0] = 0 := by
  have h : Ix.check (ps [sp1]) = 0 := by decide
  constructor
  · unfold fndP; rw [if_pos h]; rfl
  · unfold fndE; rw [if_pos h]; rfl
theorem fnd_ok {l : List Plc} {x : List UInt8} (h : fndE l x = 0) : (fndP l x).id = x ∧ fndP l x ∈ l := by
  unfold fndE at h
  unfold fndP
  split at h
  · rename_i hc
    rw [if_pos hc]
    cases hf : l.find? (fun p => p.id == x) with
    | none => rw [hf] at h; simp at h
    | some t =>
      refine ⟨?_, List.mem_of_find?_eq_some hf⟩
      have := List.find?_some hf
      simpa using this
  · rename_i hc; exact absurd h hc
theorem fnd_bad {l : List Plc} {x : List UInt8} (h : fndE l x ≠ 0) : fndP l x = pl0 := by
  unfold fndE at h
  unfold fndP
  split at h
  · rename_i hc
    rw [if_pos hc]
    cases hf : l.find? (fun p => p.id == x) with
    | none => rfl
    | some t => rw [hf] at h; simp at h
  · rename_i hc; rw [if_neg hc]
theorem fnd_mem {l : List Plc} {q : Plc} (hc : Ix.check (ps l) = 0) (hq : q ∈ l) : fndP l q.id = q ∧ fndE l q.id = 0 := by
  have hu := (Ix.check_ok.1 hc).2.2
  have hs : (l.find? fun p => p.id == q.id).isSome := List.find?_isSome.2 ⟨q, hq, by simp⟩
  obtain ⟨s, hf⟩ := Option.isSome_iff_exists.1 hs
  have hsx : s.id = q.id := by have := List.find?_some hf; simpa using this
  have e : s = q := Plc.p_inj (hu.same (List.mem_map_of_mem (List.mem_of_find?_eq_some hf)) (List.mem_map_of_mem hq) (by show Nm.val s.id = Nm.val q.id; rw [hsx]))
  unfold fndP fndE
  rw [if_pos hc, if_pos hc, hf, e]
  exact ⟨rfl, rfl⟩

set_option maxHeartbeats 8000000 in
theorem indexFinds_of (v0 : Value) (l0 : List Plc) (x0 x1 x2 x3 x4 x5 x6 x7 : UInt8) (a2 : Int) (z0 : l0.length ≤ 140737488351232) (w : World) (t0 : Px w v0 l0) :
    Calls Try.prog 6 #[v0, .agg #[.int .u8 (x0.toNat : Int), .int .u8 (x1.toNat : Int), .int .u8 (x2.toNat : Int), .int .u8 (x3.toNat : Int), .int .u8 (x4.toNat : Int), .int .u8 (x5.toNat : Int), .int .u8 (x6.toNat : Int), .int .u8 (x7.toNat : Int)], .int .i64 a2] w fun e w' => e = .returned (.bool true) ∧ Below w.heap.size w w' := by
  obtain ⟨s0, c0, rfl, _, _⟩ := t0.slice
  obtain ⟨W1, hW1⟩ : ∃ W1, W1 = w.alloc (.cells #[.int .u8 (x0.toNat : Int), .int .u8 (x1.toNat : Int), .int .u8 (x2.toNat : Int), .int .u8 (x3.toNat : Int), .int .u8 (x4.toNat : Int), .int .u8 (x5.toNat : Int), .int .u8 (x6.toNat : Int), .int .u8 (x7.toNat : Int)] 24) := ⟨_, rfl⟩
  have s1 : W1.heap.size = w.heap.size + 1 := by rw [hW1]; show (w.heap.push _).size = _; simp
  have hb1 : Below w.heap.size w W1 := by rw [hW1]; exact (Below.refl _ w).alloc (Nat.le_refl _) _
  have HB1 : Hid (Below w.heap.size w W1) := hb1
  have HS1 : Hid (W1.heap.size = w.heap.size + 1) := s1
  have T1 : Hid (Px W1 (.slice s0 l0.length c0) l0) := t0.below hb1
  have HX : Hid (∀ r u, (#[.int .u8 (x0.toNat : Int), .int .u8 (x1.toNat : Int), .int .u8 (x2.toNat : Int), .int .u8 (x3.toNat : Int), .int .u8 (x4.toNat : Int), .int .u8 (x5.toNat : Int), .int .u8 (x6.toNat : Int), .int .u8 (x7.toNat : Int)] : Array Value)[r]? = some u → W1.cell? ⟨w.heap.size, r, none⟩ = some u) := fun j u hu => by
    rw [hW1, cell_of_row _ w.heap.size j _ _ _ (heap_alloc_new w _)]; exact hu
  have hsp : ∀ W, Calls Try.prog 23 #[] W fun e w' => e = .returned (.agg #[.int .u8 1, .int .u8 0, .int .u8 0, .int .u8 0, .int .u8 0, .int .u8 0, .int .u8 0, .int .u8 0, .int .i64 1, .int .i64 0, .int .i64 0, .int .i64 0]) ∧ Below W.heap.size W w' := fun W => some_place W
  have hf1 : ∀ W : World, Calls Try.prog 10 #[.slice (some ⟨W.heap.size, 0, none⟩) 1 1, .agg #[.int .u8 1, .int .u8 0, .int .u8 0, .int .u8 0, .int .u8 0, .int .u8 0, .int .u8 0, .int .u8 0]] (W.alloc (.cells #[.int .u8 1, .int .u8 0, .int .u8 0, .int .u8 0, .int .u8 0, .int .u8 0, .int .u8 0, .int .u8 0, .int .i64 1, .int .i64 0, .int .i64 0, .int .i64 0] 28)) fun e w' => e = .returned (.tuple #[.agg #[.int .u8 1, .int .u8 0, .int .u8 0, .int .u8 0, .int .u8 0, .int .u8 0, .int .u8 0, .int .u8 0, .int .i64 1, .int .i64 0, .int .i64 0, .int .i64 0], .int .i64 0]) ∧ Below (W.alloc (.cells #[.int .u8 1, .int .u8 0, .int .u8 0, .int .u8 0, .int .u8 0, .int .u8 0, .int .u8 0, .int .u8 0, .int .i64 1, .int .i64 0, .int .i64 0, .int .i64 0] 28)).heap.size (W.alloc (.cells #[.int .u8 1, .int .u8 0, .int .u8 0, .int .u8 0, .int .u8 0, .int .u8 0, .int .u8 0, .int .u8 0, .int .i64 1, .int .i64 0, .int .i64 0, .int .i64 0] 28)) w' := fun W => by
    have := find_of _ [sp1] 1 0 0 0 0 0 0 0 _ (one_px W) (by simp)
    rw [fnd_sp.1, fnd_sp.2] at this
    exact this
  clear t0 hb1 s1
  go_enter Try.func6, Try.ntmps6
  go_upto_region 1 with fail
  rw [← hW1]
  clear hW1
  go_upto_region 2 with (first
    | (go_at_call 23; refine (hsp _).mono ?_; rintro e w2 ⟨rfl, b2'⟩)
    | (go_at_call 10; refine (hf1 w2).mono ?_; rintro e w3 ⟨rfl, b3'⟩))
  have HB2 : Hid (Below W1.heap.size W1 (w2.alloc (.cells #[.int .u8 1, .int .u8 0, .int .u8 0, .int .u8 0, .int .u8 0, .int .u8 0, .int .u8 0, .int .u8 0, .int .i64 1, .int .i64 0, .int .i64 0, .int .i64 0] 28))) := b2'.alloc b2'.size _
  have HB3 : Hid (Below W1.heap.size W1 w3) := HB2.out.trans (b3'.mono HB2.out.size)
  have HN4 : Hid (At12 (w3.alloc (.cells #[.int .u8 1, .int .u8 0, .int .u8 0, .int .u8 0, .int .u8 0, .int .u8 0, .int .u8 0, .int .u8 0, .int .i64 1, .int .i64 0, .int .i64 0, .int .i64 0] 28)) w3.heap.size 0 1 0 0 0 0 0 0 0 1 0 0 0) := At12.new w3 28 1 0 0 0 0 0 0 0 1 0 0 0
  have HB4 : Hid (Below W1.heap.size W1 (w3.alloc (.cells #[.int .u8 1, .int .u8 0, .int .u8 0, .int .u8 0, .int .u8 0, .int .u8 0, .int .u8 0, .int .u8 0, .int .i64 1, .int .i64 0, .int .i64 0, .int .i64 0] 28))) := HB3.out.alloc HB3.out.size _
  have hz4 : w3.heap.size < (w3.alloc (.cells #[.int .u8 1, .int .u8 0, .int .u8 0, .int .u8 0, .int .u8 0, .int .u8 0, .int .u8 0, .int .u8 0, .int .i64 1, .int .i64 0, .int .i64 0, .int .i64 0] 28)).heap.size := by show w3.heap.size < (w3.heap.push _).size; simp
  have HZ3 : Hid (W1.heap.size ≤ w3.heap.size) := HB3.out.size
  generalize w3.alloc (.cells #[.int .u8 1, .int .u8 0, .int .u8 0, .int .u8 0, .int .u8 0, .int .u8 0, .int .u8 0, .int .u8 0, .int .i64 1, .int .i64 0, .int .i64 0, .int .i64 0] 28) = w4 at *
  have hn4 := HN4.out
  have y0 : ∀ X : Since w4.heap.size w4, X.val.cell? ⟨w3.heap.size, 0, none⟩ = some (.int .u8 1) := fun X => (X.property.cell (p := ⟨w3.heap.size, 0, none⟩) hz4).trans hn4.c0
  have y1 : ∀ X : Since w4.heap.size w4, X.val.cell? ⟨w3.heap.size, 1, none⟩ = some (.int .u8 0) := fun X => (X.property.cell (p := ⟨w3.heap.size, 1, none⟩) hz4).trans hn4.c1
  have y2 : ∀ X : Since w4.heap.size w4, X.val.cell? ⟨w3.heap.size, 2, none⟩ = some (.int .u8 0) := fun X => (X.property.cell (p := ⟨w3.heap.size, 2, none⟩) hz4).trans hn4.c2
  have y3 : ∀ X : Since w4.heap.size w4, X.val.cell? ⟨w3.heap.size, 3, none⟩ = some (.int .u8 0) := fun X => (X.property.cell (p := ⟨w3.heap.size, 3, none⟩) hz4).trans hn4.c3
  have y4 : ∀ X : Since w4.heap.size w4, X.val.cell? ⟨w3.heap.size, 4, none⟩ = some (.int .u8 0) := fun X => (X.property.cell (p := ⟨w3.heap.size, 4, none⟩) hz4).trans hn4.c4
  have y5 : ∀ X : Since w4.heap.size w4, X.val.cell? ⟨w3.heap.size, 5, none⟩ = some (.int .u8 0) := fun X => (X.property.cell (p := ⟨w3.heap.size, 5, none⟩) hz4).trans hn4.c5
  have y6 : ∀ X : Since w4.heap.size w4, X.val.cell? ⟨w3.heap.size, 6, none⟩ = some (.int .u8 0) := fun X => (X.property.cell (p := ⟨w3.heap.size, 6, none⟩) hz4).trans hn4.c6
  have y7 : ∀ X : Since w4.heap.size w4, X.val.cell? ⟨w3.heap.size, 7, none⟩ = some (.int .u8 0) := fun X => (X.property.cell (p := ⟨w3.heap.size, 7, none⟩) hz4).trans hn4.c7
  have y8 : ∀ X : Since w4.heap.size w4, X.val.cell? ⟨w3.heap.size, 8, none⟩ = some (.int .i64 1) := fun X => (X.property.cell (p := ⟨w3.heap.size, 8, none⟩) hz4).trans hn4.c8
  have y9 : ∀ X : Since w4.heap.size w4, X.val.cell? ⟨w3.heap.size, 9, none⟩ = some (.int .i64 0) := fun X => (X.property.cell (p := ⟨w3.heap.size, 9, none⟩) hz4).trans hn4.c9
  have y10 : ∀ X : Since w4.heap.size w4, X.val.cell? ⟨w3.heap.size, 10, none⟩ = some (.int .i64 0) := fun X => (X.property.cell (p := ⟨w3.heap.size, 10, none⟩) hz4).trans hn4.c10
  have y11 : ∀ X : Since w4.heap.size w4, X.val.cell? ⟨w3.heap.size, 11, none⟩ = some (.int .i64 0) := fun X => (X.property.cell (p := ⟨w3.heap.size, 11, none⟩) hz4).trans hn4.c11
  have heq1 : ∀ W, (Op.equalIn 10000 28 (.agg #[.int .u8 1, .int .u8 0, .int .u8 0, .int .u8 0, .int .u8 0, .int .u8 0, .int .u8 0, .int .u8 0, .int .i64 1, .int .i64 0, .int .i64 0, .int .i64 0]) (.agg #[.int .u8 1, .int .u8 0, .int .u8 0, .int .u8 0, .int .u8 0, .int .u8 0, .int .u8 0, .int .u8 0, .int .i64 1, .int .i64 0, .int .i64 0, .int .i64 0])).run Try.prog W = .ok true W := fun W => by
    have := pl_cmp W sp1 sp1
    rw [plSame_self] at this
    exact this
  clear hn4 b2' b3' hf1 HB2 HB3
  have hne : Nonempty (Since w4.heap.size w4) := ⟨⟨w4, Below.refl _ _⟩⟩
  refine wp_region_since (B := w4.heap.size) (W0 := w4) (by kernel_rfl) (by kernel_rfl) (Below.refl _ _) ?_
  repeat (go_big_quiet_step (exact quiet_since _ (hsp _)))
  refine wpQuiet_nil ?_
  rintro w5 ⟨U, rfl⟩
  have HB5 : Hid (Below W1.heap.size W1 U.val) := HB4.out.trans (U.property.mono HB4.out.size)
  generalize U.val = w5 at *
  clear hne hsp heq1 HN4 HB4 y0 y1 y2 y3 y4 y5 y6 y7 y8 y9 y10 y11
  obtain ⟨E, hE⟩ : ∃ E, Ix.check (ps l0) = E := ⟨_, rfl⟩
  have HE : Hid (Ix.check (ps l0) = E) := hE
  obtain ⟨b0, b1, b2, b3, b4, b5, b6, b7, k1, p1, a1, l1, hfp⟩ := (fndP l0 [x0, x1, x2, x3, x4, x5, x6, x7]).as12
  have HFP : Hid (fndP l0 [x0, x1, x2, x3, x4, x5, x6, x7] = ⟨[b0, b1, b2, b3, b4, b5, b6, b7], rfl, k1, p1, a1, l1⟩) := hfp
  obtain ⟨fe, hfe⟩ : ∃ fe, fndE l0 [x0, x1, x2, x3, x4, x5, x6, x7] = fe := ⟨_, rfl⟩
  have HFE : Hid (fndE l0 [x0, x1, x2, x3, x4, x5, x6, x7] = fe) := hfe
  have hfnd : ∀ W, Px W (.slice s0 l0.length c0) l0 → Calls Try.prog 10 #[.slice s0 l0.length c0, .agg #[.int .u8 (x0.toNat : Int), .int .u8 (x1.toNat : Int), .int .u8 (x2.toNat : Int), .int .u8 (x3.toNat : Int), .int .u8 (x4.toNat : Int), .int .u8 (x5.toNat : Int), .int .u8 (x6.toNat : Int), .int .u8 (x7.toNat : Int)]] W fun e w' => e = .returned (.tuple #[.agg (pl12 b0 b1 b2 b3 b4 b5 b6 b7 k1 p1 a1 l1), .int .i64 fe]) ∧ Below W.heap.size W w' := fun W hW => by
    have := find_of _ l0 x0 x1 x2 x3 x4 x5 x6 x7 W hW z0
    rw [hfp, hfe] at this
    exact this
  have hxx := fun r u (hu : (#[.int .u8 (x0.toNat : Int), .int .u8 (x1.toNat : Int), .int .u8 (x2.toNat : Int), .int .u8 (x3.toNat : Int), .int .u8 (x4.toNat : Int), .int .u8 (x5.toNat : Int), .int .u8 (x6.toNat : Int), .int .u8 (x7.toNat : Int)] : Array Value)[r]? = some u) => (HB5.out.cell (p := ⟨w.heap.size, r, none⟩) (by rw [HS1.out]; show w.heap.size < _; omega)).trans (HX.out r u hu)
  have xx0 : w5.cell? ⟨w.heap.size, 0, none⟩ = some (.int .u8 (x0.toNat : Int)) := hxx 0 _ rfl
  have xx1 : w5.cell? ⟨w.heap.size, 1, none⟩ = some (.int .u8 (x1.toNat : Int)) := hxx 1 _ rfl
  have xx2 : w5.cell? ⟨w.heap.size, 2, none⟩ = some (.int .u8 (x2.toNat : Int)) := hxx 2 _ rfl
  have xx3 : w5.cell? ⟨w.heap.size, 3, none⟩ = some (.int .u8 (x3.toNat : Int)) := hxx 3 _ rfl
  have xx4 : w5.cell? ⟨w.heap.size, 4, none⟩ = some (.int .u8 (x4.toNat : Int)) := hxx 4 _ rfl
  have xx5 : w5.cell? ⟨w.heap.size, 5, none⟩ = some (.int .u8 (x5.toNat : Int)) := hxx 5 _ rfl
  have xx6 : w5.cell? ⟨w.heap.size, 6, none⟩ = some (.int .u8 (x6.toNat : Int)) := hxx 6 _ rfl
  have xx7 : w5.cell? ⟨w.heap.size, 7, none⟩ = some (.int .u8 (x7.toNat : Int)) := hxx 7 _ rfl
  clear hxx hfp hfe hE
  go_upto_region 5 with (go_at_call 10; refine (hfnd _ (T1.out.below HB5.out)).mono ?_; rintro e w6 ⟨rfl, b6'⟩)
  have HB6 : Hid (Below W1.heap.size W1 w6) := HB5.out.trans (b6'.mono HB5.out.size)
  have HN7 : Hid (At12 (w6.alloc (.cells (pl12 b0 b1 b2 b3 b4 b5 b6 b7 k1 p1 a1 l1) 28)) w6.heap.size 0 b0 b1 b2 b3 b4 b5 b6 b7 k1 p1 a1 l1) := At12.new _ _ _ _ _ _ _ _ _ _ _ _ _ _
  have HT7 : Hid ((w6.alloc (.cells (pl12 b0 b1 b2 b3 b4 b5 b6 b7 k1 p1 a1 l1) 28)).there w6.heap.size 0 12) := there_new w6 _ _ rfl
  have HB7 : Hid (Below W1.heap.size W1 (w6.alloc (.cells (pl12 b0 b1 b2 b3 b4 b5 b6 b7 k1 p1 a1 l1) 28))) := HB6.out.alloc HB6.out.size _
  have HZ7 : Hid ((w6.alloc (.cells (pl12 b0 b1 b2 b3 b4 b5 b6 b7 k1 p1 a1 l1) 28)).heap.size = w6.heap.size + 1) := by show (w6.heap.push _).size = _; simp
  have HZ6 : Hid (W1.heap.size ≤ w6.heap.size) := HB6.out.size
  have e7 : w6.alloc (.cells #[.int .u8 (b0.toNat : Int), .int .u8 (b1.toNat : Int), .int .u8 (b2.toNat : Int), .int .u8 (b3.toNat : Int), .int .u8 (b4.toNat : Int), .int .u8 (b5.toNat : Int), .int .u8 (b6.toNat : Int), .int .u8 (b7.toNat : Int), .int .i64 k1, .int .i64 p1, .int .i64 a1, .int .i64 l1] 28) = w6.alloc (.cells (pl12 b0 b1 b2 b3 b4 b5 b6 b7 k1 p1 a1 l1) 28) := rfl
  rw [e7]
  clear e7 hfnd b6' HB5 HB6 xx0 xx1 xx2 xx3 xx4 xx5 xx6 xx7
  generalize w6.alloc (.cells (pl12 b0 b1 b2 b3 b4 b5 b6 b7 k1 p1 a1 l1) 28) = w7 at *
  have T7 : Hid (Px w7 (.slice s0 l0.length c0) l0) := T1.out.below HB7.out
  go_cut [54] from 32 (fun x wx => x = .bool false ∧ Hid (Below w7.heap.size w7 wx))
  case first =>
    have hn7 := HN7.out
    have hxx := fun r u (hu : (#[.int .u8 (x0.toNat : Int), .int .u8 (x1.toNat : Int), .int .u8 (x2.toNat : Int), .int .u8 (x3.toNat : Int), .int .u8 (x4.toNat : Int), .int .u8 (x5.toNat : Int), .int .u8 (x6.toNat : Int), .int .u8 (x7.toNat : Int)] : Array Value)[r]? = some u) => (HB7.out.cell (p := ⟨w.heap.size, r, none⟩) (by rw [HS1.out]; show w.heap.size < _; omega)).trans (HX.out r u hu)
    have y0 : w7.cell? ⟨w6.heap.size, 0, none⟩ = some (.int .u8 (b0.toNat : Int)) := hn7.c0
    have y1 : w7.cell? ⟨w6.heap.size, 1, none⟩ = some (.int .u8 (b1.toNat : Int)) := hn7.c1
    have y2 : w7.cell? ⟨w6.heap.size, 2, none⟩ = some (.int .u8 (b2.toNat : Int)) := hn7.c2
    have y3 : w7.cell? ⟨w6.heap.size, 3, none⟩ = some (.int .u8 (b3.toNat : Int)) := hn7.c3
    have y4 : w7.cell? ⟨w6.heap.size, 4, none⟩ = some (.int .u8 (b4.toNat : Int)) := hn7.c4
    have y5 : w7.cell? ⟨w6.heap.size, 5, none⟩ = some (.int .u8 (b5.toNat : Int)) := hn7.c5
    have y6 : w7.cell? ⟨w6.heap.size, 6, none⟩ = some (.int .u8 (b6.toNat : Int)) := hn7.c6
    have y7 : w7.cell? ⟨w6.heap.size, 7, none⟩ = some (.int .u8 (b7.toNat : Int)) := hn7.c7
    have y8 : w7.cell? ⟨w6.heap.size, 8, none⟩ = some (.int .i64 k1) := hn7.c8
    have y9 : w7.cell? ⟨w6.heap.size, 9, none⟩ = some (.int .i64 p1) := hn7.c9
    have y10 : w7.cell? ⟨w6.heap.size, 10, none⟩ = some (.int .i64 a1) := hn7.c10
    have y11 : w7.cell? ⟨w6.heap.size, 11, none⟩ = some (.int .i64 l1) := hn7.c11
    have xx0 : w7.cell? ⟨w.heap.size, 0, none⟩ = some (.int .u8 (x0.toNat : Int)) := hxx 0 _ rfl
    have xx1 : w7.cell? ⟨w.heap.size, 1, none⟩ = some (.int .u8 (x1.toNat : Int)) := hxx 1 _ rfl
    have xx2 : w7.cell? ⟨w.heap.size, 2, none⟩ = some (.int .u8 (x2.toNat : Int)) := hxx 2 _ rfl
    have xx3 : w7.cell? ⟨w.heap.size, 3, none⟩ = some (.int .u8 (x3.toNat : Int)) := hxx 3 _ rfl
    have xx4 : w7.cell? ⟨w.heap.size, 4, none⟩ = some (.int .u8 (x4.toNat : Int)) := hxx 4 _ rfl
    have xx5 : w7.cell? ⟨w.heap.size, 5, none⟩ = some (.int .u8 (x5.toNat : Int)) := hxx 5 _ rfl
    have xx6 : w7.cell? ⟨w.heap.size, 6, none⟩ = some (.int .u8 (x6.toNat : Int)) := hxx 6 _ rfl
    have xx7 : w7.cell? ⟨w.heap.size, 7, none⟩ = some (.int .u8 (x7.toNat : Int)) := hxx 7 _ rfl
    clear hn7 hxx
    by_cases hf0 : fe = 0
    · subst hf0
      obtain ⟨hid, hmem⟩ := fnd_ok HFE.out
      rw [HFP.out] at hid hmem
      have hcn := contains_of _ l0 b0 b1 b2 b3 b4 b5 b6 b7 k1 p1 a1 l1 w7 T7.out z0 hmem
      have heqi : ∀ W, (Op.equalIn 10000 24 (.agg #[.int .u8 (b0.toNat : Int), .int .u8 (b1.toNat : Int), .int .u8 (b2.toNat : Int), .int .u8 (b3.toNat : Int), .int .u8 (b4.toNat : Int), .int .u8 (b5.toNat : Int), .int .u8 (b6.toNat : Int), .int .u8 (b7.toNat : Int)]) (.agg #[.int .u8 (x0.toNat : Int), .int .u8 (x1.toNat : Int), .int .u8 (x2.toNat : Int), .int .u8 (x3.toNat : Int), .int .u8 (x4.toNat : Int), .int .u8 (x5.toNat : Int), .int .u8 (x6.toNat : Int), .int .u8 (x7.toNat : Int)])).run Try.prog W = .ok true W := fun W => by
        have := id_eq_at W 9998 [b0, b1, b2, b3, b4, b5, b6, b7] [x0, x1, x2, x3, x4, x5, x6, x7] rfl rfl
        rw [show ([b0, b1, b2, b3, b4, b5, b6, b7] == [x0, x1, x2, x3, x4, x5, x6, x7]) = true from beq_iff_eq.2 hid] at this
        exact this
      clear hid hmem
      go_wp2_with (go_at_call 24; refine hcn.mono ?_; rintro e w8 ⟨rfl, b8⟩)
      go_meet
      exact ⟨rfl, b8⟩
    · have heqz : ∀ W, (Op.equalIn 10000 28 (.agg (pl12 b0 b1 b2 b3 b4 b5 b6 b7 k1 p1 a1 l1)) (.agg #[.int .u8 0, .int .u8 0, .int .u8 0, .int .u8 0, .int .u8 0, .int .u8 0, .int .u8 0, .int .u8 0, .int .i64 0, .int .i64 0, .int .i64 0, .int .i64 0])).run Try.prog W = .ok true W := fun W => by
        have hp := fnd_bad (l := l0) (x := [x0, x1, x2, x3, x4, x5, x6, x7]) (by rw [HFE.out]; exact hf0)
        have := pl_cmp W (fndP l0 [x0, x1, x2, x3, x4, x5, x6, x7]) pl0
        rw [hp, plSame_self] at this
        rw [← plV_12, ← HFP.out, hp]
        exact this
      have he2 : (fe == 0) = false := by simpa using hf0
      have he3 : (fe != 0) = true := by simpa using hf0
      clear hf0
      go_wp2_with fail
      go_meet
      exact ⟨rfl, Below.refl _ _⟩
  case rest =>
  obtain ⟨rfl, hcw⟩ := hcut
  have T8 : Hid (Px wc (.slice s0 l0.length c0) l0) := T7.out.below hcw.out
  have HB8 : Hid (Below W1.heap.size W1 wc) := HB7.out.trans (hcw.out.mono HB7.out.size)
  have HT8 : Hid (wc.there w6.heap.size 0 12) := there_below HT7.out hcw.out (by rw [HZ7.out]; omega)
  have HW8 : Hid (w6.heap.size < wc.heap.size) := by have h1 := HZ7.out; have h2 := hcw.out.size; show w6.heap.size < wc.heap.size; omega
  clear hcw HT7 HN7 HB7
  have hck := check_tell HE.out z0 T8.out
  by_cases hE0 : E = 0
  · subst hE0
    by_cases hlen : l0.length = 0
    · rw [hlen] at hck ⊢
      clear hlen
      go_wp2_with (go_at_call 13; refine hck.mono ?_; rintro e w9 ⟨rfl, b9⟩)
      go_ret
      exact ⟨rfl, HB1.out.trans ((HB8.out.trans (b9.mono HB8.out.size)).mono HB1.out.size)⟩
    · have hl2 : ((l0.length : Int) == 0) = false := by simpa using hlen
      have LA : l0.length ≤ 400 := by have := (Ix.check_ok.1 HE.out).1; rwa [List.length_map] at this
      have hrs := fun W => rest_any a2 l0.length W (by omega) (by omega)
      go_upto_region 9 with (go_at_call 13; refine hck.mono ?_; rintro e w9 ⟨rfl, b9⟩)
      have T9 : Hid (Px w9 (.slice s0 l0.length c0) l0) := T8.out.below b9
      have HB9 : Hid (Below W1.heap.size W1 w9) := HB8.out.trans (b9.mono HB8.out.size)
      have HT9 : Hid (w9.there w6.heap.size 0 12) := there_below HT8.out b9 HW8.out
      have HW9 : Hid (w6.heap.size < w9.heap.size) := Nat.lt_of_lt_of_le HW8.out b9.size
      clear hck b9 T8 HB8 HT8 HW8 hl2 hlen
      refine wp_region_lit ?_
      refine wpList_plain rfl fun C hC => ?_
      go_simp
      refine hC _ _ ?_
      clear hC C
      refine wpList_plain rfl fun C hC => ?_
      go_simp
      refine hC _ _ ?_
      clear hC C
      refine wpList_plain rfl fun C hC => ?_
      go_simp
      refine hC _ _ ?_
      clear hC C
      refine wpList_plain rfl fun C hC => ?_
      go_simp
      refine hC _ _ ?_
      clear hC C
      refine wpList_plain rfl fun C hC => ?_
      go_simp
      refine (hrs _).mono ?_
      rintro e u ⟨⟨r, hr, rfl⟩, hu⟩
      obtain rfl := hu.symm
      clear hu
      refine hC _ _ ?_
      clear hC C hrs
      obtain ⟨q, hq⟩ : ∃ q, l0[r]? = some q := ⟨_, List.getElem?_eq_getElem hr⟩
      have HQM : Hid (q ∈ l0) := List.mem_of_getElem? hq
      obtain ⟨d0, d1, d2, d3, d4, d5, d6, d7, k2, p2, q2, l2, hq12⟩ := q.as12
      have HQ12 : Hid (q = ⟨[d0, d1, d2, d3, d4, d5, d6, d7], rfl, k2, p2, q2, l2⟩) := hq12
      rw [hq12] at hq
      obtain ⟨bk, o, hao, hbk, hat⟩ := T9.out.twelve r hq
      subst hao
      have y0 : w9.cell? ⟨bk, o + r * 12, none⟩ = some (.int .u8 (d0.toNat : Int)) := hat.c0
      have y1 : w9.cell? ⟨bk, o + r * 12 + 1, none⟩ = some (.int .u8 (d1.toNat : Int)) := hat.c1
      have y2 : w9.cell? ⟨bk, o + r * 12 + 2, none⟩ = some (.int .u8 (d2.toNat : Int)) := hat.c2
      have y3 : w9.cell? ⟨bk, o + r * 12 + 3, none⟩ = some (.int .u8 (d3.toNat : Int)) := hat.c3
      have y4 : w9.cell? ⟨bk, o + r * 12 + 4, none⟩ = some (.int .u8 (d4.toNat : Int)) := hat.c4
      have y5 : w9.cell? ⟨bk, o + r * 12 + 5, none⟩ = some (.int .u8 (d5.toNat : Int)) := hat.c5
      have y6 : w9.cell? ⟨bk, o + r * 12 + 6, none⟩ = some (.int .u8 (d6.toNat : Int)) := hat.c6
      have y7 : w9.cell? ⟨bk, o + r * 12 + 7, none⟩ = some (.int .u8 (d7.toNat : Int)) := hat.c7
      have y8 : w9.cell? ⟨bk, o + r * 12 + 8, none⟩ = some (.int .i64 k2) := hat.c8
      have y9 : w9.cell? ⟨bk, o + r * 12 + 9, none⟩ = some (.int .i64 p2) := hat.c9
      have y10 : w9.cell? ⟨bk, o + r * 12 + 10, none⟩ = some (.int .i64 q2) := hat.c10
      have y11 : w9.cell? ⟨bk, o + r * 12 + 11, none⟩ = some (.int .i64 l2) := hat.c11
      clear hat hq hq12
      have HN10 : Hid (At12 (w9.alloc (.cells (pl12 d0 d1 d2 d3 d4 d5 d6 d7 k2 p2 q2 l2) 28)) w9.heap.size 0 d0 d1 d2 d3 d4 d5 d6 d7 k2 p2 q2 l2) := At12.new _ _ _ _ _ _ _ _ _ _ _ _ _ _
      have hbx : Below w9.heap.size w9 (w9.alloc (.cells (pl12 d0 d1 d2 d3 d4 d5 d6 d7 k2 p2 q2 l2) 28)) := (Below.refl _ w9).alloc (Nat.le_refl _) _
      have T10 : Hid (Px (w9.alloc (.cells (pl12 d0 d1 d2 d3 d4 d5 d6 d7 k2 p2 q2 l2) 28)) (.slice (some ⟨bk, o, none⟩) l0.length c0) l0) := T9.out.below hbx
      have HB10 : Hid (Below W1.heap.size W1 (w9.alloc (.cells (pl12 d0 d1 d2 d3 d4 d5 d6 d7 k2 p2 q2 l2) 28))) := HB9.out.alloc HB9.out.size _
      have HT10 : Hid ((w9.alloc (.cells (pl12 d0 d1 d2 d3 d4 d5 d6 d7 k2 p2 q2 l2) 28)).there w6.heap.size 0 12) := there_below HT9.out hbx HW9.out
      have HZ10 : Hid ((w9.alloc (.cells (pl12 d0 d1 d2 d3 d4 d5 d6 d7 k2 p2 q2 l2) 28)).heap.size = w9.heap.size + 1) := by show (w9.heap.push _).size = _; simp
      clear hbx
      go_upto_region 10 with fail
      have e10 : w9.alloc (.cells #[.int .u8 (d0.toNat : Int), .int .u8 (d1.toNat : Int), .int .u8 (d2.toNat : Int), .int .u8 (d3.toNat : Int), .int .u8 (d4.toNat : Int), .int .u8 (d5.toNat : Int), .int .u8 (d6.toNat : Int), .int .u8 (d7.toNat : Int), .int .i64 k2, .int .i64 p2, .int .i64 q2, .int .i64 l2] 28) = w9.alloc (.cells (pl12 d0 d1 d2 d3 d4 d5 d6 d7 k2 p2 q2 l2) 28) := rfl
      rw [e10]
      clear e10 y0 y1 y2 y3 y4 y5 y6 y7 y8 y9 y10 y11
      generalize w9.alloc (.cells (pl12 d0 d1 d2 d3 d4 d5 d6 d7 k2 p2 q2 l2) 28) = w10 at *
      have hf2 : Calls Try.prog 10 #[.slice (some ⟨bk, o, none⟩) l0.length c0, .agg #[.int .u8 (d0.toNat : Int), .int .u8 (d1.toNat : Int), .int .u8 (d2.toNat : Int), .int .u8 (d3.toNat : Int), .int .u8 (d4.toNat : Int), .int .u8 (d5.toNat : Int), .int .u8 (d6.toNat : Int), .int .u8 (d7.toNat : Int)]] w10 fun e w' => e = .returned (.tuple #[plV q, .int .i64 0]) ∧ Below w10.heap.size w10 w' := by
        have := find_of _ l0 d0 d1 d2 d3 d4 d5 d6 d7 w10 T10.out z0
        have h1 := fnd_mem HE.out HQM.out
        have h2 : q.id = [d0, d1, d2, d3, d4, d5, d6, d7] := by rw [HQ12.out]
        rw [h2] at h1
        rw [h1.1, h1.2] at this
        exact this
      have hn10 := HN10.out
      have u0 : w10.cell? ⟨w9.heap.size, 0, none⟩ = some (.int .u8 (d0.toNat : Int)) := hn10.c0
      have u1 : w10.cell? ⟨w9.heap.size, 1, none⟩ = some (.int .u8 (d1.toNat : Int)) := hn10.c1
      have u2 : w10.cell? ⟨w9.heap.size, 2, none⟩ = some (.int .u8 (d2.toNat : Int)) := hn10.c2
      have u3 : w10.cell? ⟨w9.heap.size, 3, none⟩ = some (.int .u8 (d3.toNat : Int)) := hn10.c3
      have u4 : w10.cell? ⟨w9.heap.size, 4, none⟩ = some (.int .u8 (d4.toNat : Int)) := hn10.c4
      have u5 : w10.cell? ⟨w9.heap.size, 5, none⟩ = some (.int .u8 (d5.toNat : Int)) := hn10.c5
      have u6 : w10.cell? ⟨w9.heap.size, 6, none⟩ = some (.int .u8 (d6.toNat : Int)) := hn10.c6
      have u7 : w10.cell? ⟨w9.heap.size, 7, none⟩ = some (.int .u8 (d7.toNat : Int)) := hn10.c7
      clear hn10
      refine wp_region_lit ?_
      refine wpList_plain rfl fun C hC => ?_
      go_simp
      refine hC _ _ ?_
      clear hC C
      refine wpList_plain rfl fun C hC => ?_
      go_simp
      refine hC _ _ ?_
      clear hC C
      refine wpList_plain rfl fun C hC => ?_
      go_simp
      refine hC _ _ ?_
      clear hC C
      refine wpList_plain rfl fun C hC => ?_
      go_simp
      refine hf2.mono ?_
      rintro e w11 ⟨rfl, b11⟩
      refine hC _ _ ?_
      clear hC C hf2 u0 u1 u2 u3 u4 u5 u6 u7
      refine wpList_plain rfl fun C hC => ?_
      go_simp
      refine hC _ _ ?_
      clear hC C
      refine wpList_plain rfl fun C hC => ?_
      go_simp
      refine hC _ _ ?_
      clear hC C
      refine wpList_plain rfl fun C hC => ?_
      go_simp
      refine hC _ _ ?_
      clear hC C
      have hth : w11.there w6.heap.size 0 12 := there_below HT10.out b11 (by rw [HZ10.out]; have := HW9.out; omega)
      have hne69 : w9.heap.size ≠ w6.heap.size := by have := HW9.out; omega
      have hG9 : At12 (w11.setCells w6.heap.size 0 (plC q)) w9.heap.size 0 d0 d1 d2 d3 d4 d5 d6 d7 k2 p2 q2 l2 := (HN10.out.below b11 (by rw [HZ10.out]; omega)).kept (World.heap_setCells_other w11 _ _ _ (by have h1 := b11.size; have h2 := HZ10.out; omega) hne69)
      have hrs := World.rangeAt_setCells_same w11 w6.heap.size 0 (plC q) (by rw [plC_length]; exact hth)
      have hG6 : At12 (w11.setCells w6.heap.size 0 (plC q)) w6.heap.size 0 d0 d1 d2 d3 d4 d5 d6 d7 k2 p2 q2 l2 := At12.of fun r u hu => hrs r u (by rw [HQ12.out]; exact hu)
      have BW11 : Hid (Below w.heap.size w (w11.setCells w6.heap.size 0 (plC q))) := below_cells (by have h1 := HZ6.out; have h2 := HS1.out; omega) _ _ (HB1.out.trans ((HB10.out.trans (b11.mono HB10.out.size)).mono HB1.out.size)) (Nat.le_refl _)
      have heqq : ∀ W, (Op.equalIn 10000 28 (.agg (pl12 d0 d1 d2 d3 d4 d5 d6 d7 k2 p2 q2 l2)) (.agg (pl12 d0 d1 d2 d3 d4 d5 d6 d7 k2 p2 q2 l2))).run Try.prog W = .ok true W := fun W => by
        have := pl_cmp W ⟨[d0, d1, d2, d3, d4, d5, d6, d7], rfl, k2, p2, q2, l2⟩ ⟨[d0, d1, d2, d3, d4, d5, d6, d7], rfl, k2, p2, q2, l2⟩
        rw [plSame_self] at this
        exact this
      refine wpList_store_mid rfl 28 (.tmp 9) (.tmp 75) rfl w6.heap.size 0 (plC q).toArray rfl rfl (by rw [sz12]; exact hth) (by rw [info_pl12, sz12]) (plC_all q) ?_
      rw [show (plC q).toArray.toList = plC q from rfl]
      clear b11 hth hrs
      generalize w11.setCells w6.heap.size 0 (plC q) = w12 at *
      have y0 : w12.cell? ⟨w6.heap.size, 0, none⟩ = some (.int .u8 (d0.toNat : Int)) := hG6.c0
      have y1 : w12.cell? ⟨w6.heap.size, 1, none⟩ = some (.int .u8 (d1.toNat : Int)) := hG6.c1
      have y2 : w12.cell? ⟨w6.heap.size, 2, none⟩ = some (.int .u8 (d2.toNat : Int)) := hG6.c2
      have y3 : w12.cell? ⟨w6.heap.size, 3, none⟩ = some (.int .u8 (d3.toNat : Int)) := hG6.c3
      have y4 : w12.cell? ⟨w6.heap.size, 4, none⟩ = some (.int .u8 (d4.toNat : Int)) := hG6.c4
      have y5 : w12.cell? ⟨w6.heap.size, 5, none⟩ = some (.int .u8 (d5.toNat : Int)) := hG6.c5
      have y6 : w12.cell? ⟨w6.heap.size, 6, none⟩ = some (.int .u8 (d6.toNat : Int)) := hG6.c6
      have y7 : w12.cell? ⟨w6.heap.size, 7, none⟩ = some (.int .u8 (d7.toNat : Int)) := hG6.c7
      have y8 : w12.cell? ⟨w6.heap.size, 8, none⟩ = some (.int .i64 k2) := hG6.c8
      have y9 : w12.cell? ⟨w6.heap.size, 9, none⟩ = some (.int .i64 p2) := hG6.c9
      have y10 : w12.cell? ⟨w6.heap.size, 10, none⟩ = some (.int .i64 q2) := hG6.c10
      have y11 : w12.cell? ⟨w6.heap.size, 11, none⟩ = some (.int .i64 l2) := hG6.c11
      have u0 : w12.cell? ⟨w9.heap.size, 0, none⟩ = some (.int .u8 (d0.toNat : Int)) := hG9.c0
      have u1 : w12.cell? ⟨w9.heap.size, 1, none⟩ = some (.int .u8 (d1.toNat : Int)) := hG9.c1
      have u2 : w12.cell? ⟨w9.heap.size, 2, none⟩ = some (.int .u8 (d2.toNat : Int)) := hG9.c2
      have u3 : w12.cell? ⟨w9.heap.size, 3, none⟩ = some (.int .u8 (d3.toNat : Int)) := hG9.c3
      have u4 : w12.cell? ⟨w9.heap.size, 4, none⟩ = some (.int .u8 (d4.toNat : Int)) := hG9.c4
      have u5 : w12.cell? ⟨w9.heap.size, 5, none⟩ = some (.int .u8 (d5.toNat : Int)) := hG9.c5
      have u6 : w12.cell? ⟨w9.heap.size, 6, none⟩ = some (.int .u8 (d6.toNat : Int)) := hG9.c6
      have u7 : w12.cell? ⟨w9.heap.size, 7, none⟩ = some (.int .u8 (d7.toNat : Int)) := hG9.c7
      have u8 : w12.cell? ⟨w9.heap.size, 8, none⟩ = some (.int .i64 k2) := hG9.c8
      have u9 : w12.cell? ⟨w9.heap.size, 9, none⟩ = some (.int .i64 p2) := hG9.c9
      have u10 : w12.cell? ⟨w9.heap.size, 10, none⟩ = some (.int .i64 q2) := hG9.c10
      have u11 : w12.cell? ⟨w9.heap.size, 11, none⟩ = some (.int .i64 l2) := hG9.c11
      clear hG6 hG9
      go_wp2_with fail
      go_ret
      exact ⟨rfl, BW11.out⟩
  · have he2 : (E == 0) = false := by simpa using hE0
    have he3 : (E != 0) = true := by simpa using hE0
    clear hE0
    go_wp2_with (go_at_call 13; refine hck.mono ?_; rintro e w9 ⟨rfl, b9⟩)
    go_ret
    exact ⟨rfl, HB1.out.trans ((HB8.out.trans (b9.mono HB8.out.size)).mono HB1.out.size)⟩

theorem indexFinds_walk (v0 : Value) (l0 : List Plc) (x1 : List UInt8) (a2 : Int) (z0 : l0.length ≤ 140737488351232) (_ : PsOk l0) (wx1 : x1.length = 8) (_ : (Lit.int .i64 a2).wf = true) (w : World) (t0 : Px w v0 l0) :
    Calls Try.prog 6 #[v0, idV x1, .int .i64 a2] w fun e w' => e = .returned (.bool true) ∧ Below w.heap.size w w' := by
  obtain ⟨x0, x1, x2, x3, x4, x5, x6, x7, rfl⟩ := oct x1 wx1
  exact indexFinds_of v0 l0 x0 x1 x2 x3 x4 x5 x6 x7 a2 z0 w t0
end Go.Proofs.Ytllioidjelgafaa
