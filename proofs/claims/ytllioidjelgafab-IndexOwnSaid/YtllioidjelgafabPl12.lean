/-
  The twelve cells of a place in memory, one by one.
-/
import Derived.Test.YtllioidjelgafabPlMem
import Derived.Test.YtllioidjelgafabQuietSince
namespace Go.Proofs.Ytllioidjelgafab
open Go.RowKit

/-- a place's cells, written out -/
abbrev pl12 (b0 b1 b2 b3 b4 b5 b6 b7 : UInt8) (k p a l : Int) : Array Value := #[.int .u8 (b0.toNat : Int), .int .u8 (b1.toNat : Int), .int .u8 (b2.toNat : Int), .int .u8 (b3.toNat : Int), .int .u8 (b4.toNat : Int), .int .u8 (b5.toNat : Int), .int .u8 (b6.toNat : Int), .int .u8 (b7.toNat : Int), .int .i64 k, .int .i64 p, .int .i64 a, .int .i64 l]
theorem plV_12 (b0 b1 b2 b3 b4 b5 b6 b7 : UInt8) (k p a l : Int) : plV ⟨[b0, b1, b2, b3, b4, b5, b6, b7], rfl, k, p, a, l⟩ = .agg (pl12 b0 b1 b2 b3 b4 b5 b6 b7 k p a l) := rfl
/-- every place is so -/
theorem Plc.as12 (t : Plc) : ∃ b0 b1 b2 b3 b4 b5 b6 b7 k p a l, t = ⟨[b0, b1, b2, b3, b4, b5, b6, b7], rfl, k, p, a, l⟩ := by
  obtain ⟨x, hx, k, p, a, l⟩ := t
  obtain ⟨b0, b1, b2, b3, b4, b5, b6, b7, rfl⟩ := oct x hx
  exact ⟨b0, b1, b2, b3, b4, b5, b6, b7, k, p, a, l, rfl⟩
structure At12 (W : World) (bk o : Nat) (b0 b1 b2 b3 b4 b5 b6 b7 : UInt8) (k p a l : Int) : Prop where
  c0 : W.cell? ⟨bk, o, none⟩ = some (.int .u8 (b0.toNat : Int))
  c1 : W.cell? ⟨bk, o + 1, none⟩ = some (.int .u8 (b1.toNat : Int))
  c2 : W.cell? ⟨bk, o + 2, none⟩ = some (.int .u8 (b2.toNat : Int))
  c3 : W.cell? ⟨bk, o + 3, none⟩ = some (.int .u8 (b3.toNat : Int))
  c4 : W.cell? ⟨bk, o + 4, none⟩ = some (.int .u8 (b4.toNat : Int))
  c5 : W.cell? ⟨bk, o + 5, none⟩ = some (.int .u8 (b5.toNat : Int))
  c6 : W.cell? ⟨bk, o + 6, none⟩ = some (.int .u8 (b6.toNat : Int))
  c7 : W.cell? ⟨bk, o + 7, none⟩ = some (.int .u8 (b7.toNat : Int))
  c8 : W.cell? ⟨bk, o + 8, none⟩ = some (.int .i64 k)
  c9 : W.cell? ⟨bk, o + 9, none⟩ = some (.int .i64 p)
  c10 : W.cell? ⟨bk, o + 10, none⟩ = some (.int .i64 a)
  c11 : W.cell? ⟨bk, o + 11, none⟩ = some (.int .i64 l)
theorem At12.of {W : World} {bk o : Nat} {b0 b1 b2 b3 b4 b5 b6 b7 : UInt8} {k p a l : Int} (h : ∀ r u, (plC ⟨[b0, b1, b2, b3, b4, b5, b6, b7], rfl, k, p, a, l⟩)[r]? = some u → W.cell? ⟨bk, o + r, none⟩ = some u) : At12 W bk o b0 b1 b2 b3 b4 b5 b6 b7 k p a l :=
  ⟨h 0 _ rfl, h 1 _ rfl, h 2 _ rfl, h 3 _ rfl, h 4 _ rfl, h 5 _ rfl, h 6 _ rfl, h 7 _ rfl, h 8 _ rfl, h 9 _ rfl, h 10 _ rfl, h 11 _ rfl⟩
theorem At12.kept {W W' : World} {bk o : Nat} {b0 b1 b2 b3 b4 b5 b6 b7 : UInt8} {k p a l : Int} (h : At12 W bk o b0 b1 b2 b3 b4 b5 b6 b7 k p a l) (e : W'.heap[bk]? = W.heap[bk]?) : At12 W' bk o b0 b1 b2 b3 b4 b5 b6 b7 k p a l := by
  have e2 : ∀ q, W'.cell? ⟨bk, q, none⟩ = W.cell? ⟨bk, q, none⟩ := fun q => by simp only [World.cell?, e]
  exact ⟨(e2 _).trans h.c0, (e2 _).trans h.c1, (e2 _).trans h.c2, (e2 _).trans h.c3, (e2 _).trans h.c4, (e2 _).trans h.c5, (e2 _).trans h.c6, (e2 _).trans h.c7, (e2 _).trans h.c8, (e2 _).trans h.c9, (e2 _).trans h.c10, (e2 _).trans h.c11⟩
theorem At12.below {W W' : World} {B bk o : Nat} {b0 b1 b2 b3 b4 b5 b6 b7 : UInt8} {k p a l : Int} (h : At12 W bk o b0 b1 b2 b3 b4 b5 b6 b7 k p a l) (hb : Below B W W') (hk : bk < B) : At12 W' bk o b0 b1 b2 b3 b4 b5 b6 b7 k p a l := h.kept (hb.block bk hk)
theorem At12.new (W : World) (t : TypeId) (b0 b1 b2 b3 b4 b5 b6 b7 : UInt8) (k p a l : Int) : At12 (W.alloc (.cells (pl12 b0 b1 b2 b3 b4 b5 b6 b7 k p a l) t)) W.heap.size 0 b0 b1 b2 b3 b4 b5 b6 b7 k p a l := by
  have e : ∀ q, (W.alloc (.cells (pl12 b0 b1 b2 b3 b4 b5 b6 b7 k p a l) t)).cell? ⟨W.heap.size, q, none⟩ = (pl12 b0 b1 b2 b3 b4 b5 b6 b7 k p a l)[q]? := fun q => cell_of_row _ W.heap.size q _ _ _ (heap_alloc_new W _)
  exact ⟨e 0, e 1, e 2, e 3, e 4, e 5, e 6, e 7, e 8, e 9, e 10, e 11⟩
/-- the place number j of places in memory -/
theorem Rx.twelve {w : World} {v : Option Addr} {n c : Nat} {L : List Plc} (h : Px w (.slice v n c) L) (j : Nat) {b0 b1 b2 b3 b4 b5 b6 b7 : UInt8} {k p a l : Int} (hj : L[j]? = some ⟨[b0, b1, b2, b3, b4, b5, b6, b7], rfl, k, p, a, l⟩) :
    ∃ bk o, v = some ⟨bk, o, none⟩ ∧ bk < w.heap.size ∧ At12 w bk (o + j * 12) b0 b1 b2 b3 b4 b5 b6 b7 k p a l := by
  obtain ⟨bk, o, h1, h2, h3⟩ := h.get j _ hj
  exact ⟨bk, o, h1, h2, At12.of fun r u hu => h3 r u hu⟩
end Go.Proofs.Ytllioidjelgafab
