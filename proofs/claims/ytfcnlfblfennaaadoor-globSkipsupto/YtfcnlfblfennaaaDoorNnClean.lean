/-
  P38: what strings.Cut at a slash and Clean of package names answer.
-/
import Derived.Test.YtfcnlfblfennaaaDoorNnJoin
import Derived.Test.YtfcnlfblfennaaaDoorNnCutM
import Derived.Test.YtfcnlfblfennaaaDoorShelfIx
import Derived.Deep.LoopGhost
import Derived.Deep.RegionWith
namespace Go.Proofs.YtfcnlfblfennaaaDoor
open Go.RowKit

/-- a text, what stands ahead of its first slash, what stands behind, and whether there is one -/
def CutR (s t r : ByteArray) (m : Bool) : Prop :=
  (m = true ∧ Nn.cut s.data.toList = t.data.toList :: Nn.cut r.data.toList ∧ t.size + r.size + 1 = s.size) ∨ (m = false ∧ Nn.cut s.data.toList = [t.data.toList] ∧ t.size = s.size)
def CutOut (s : ByteArray) (w : World) (e : Ending) (w' : World) : Prop := ∃ t r m, e = .returned (.tuple #[.string t, .string r, .bool m]) ∧ CutR s t r m ∧ Below w.heap.size w w'

/-- a row without its last text -/
theorem own_last {base : Nat} {w : World} {g n cap : Nat} {l : List ByteArray} (h : w.ownsRow base 9 1 (.slice (some ⟨g, 0, none⟩) n cap) n (l.map Tv)) (hn : 1 ≤ n) :
    w.ownsRow base 9 1 (.slice (some ⟨g, 0, none⟩) (n - 1) cap) (n - 1) (l.dropLast.map Tv) := by
  have hl : l.length = n := by have := h.1; simpa using this
  rcases h.2 with ⟨hv, _⟩ | ⟨g', cap', cur, hv, hb, hg, hle, hm, hs, htk⟩
  · cases hv
  · cases hv
    refine ⟨by simp; omega, .inr ⟨g, cap, cur, rfl, hb, hg, by omega, hm, hs, ?_⟩⟩
    rw [List.map_dropLast, ← htk, List.dropLast_eq_take, List.take_take, List.length_take]
    congr 1
    have : cur.toList.length = cap * 1 := by simpa using hs
    omega
/-- one text more behind a row of one's own -/
theorem own_push {base : Nat} {w wr w1 : World} {v v1 : Value} {l : List ByteArray} {t : ByteArray} {o : Obj} (hown : wr.ownsRow base 9 1 v l.length (l.map Tv))
    (hown1 : w1.ownsRow base 9 1 v1 (l.length + 1) (l.map Tv ++ [.string t])) (hg : (wr.alloc o).grownBy w1 v.ownBlock) (hbel : Below base w wr) (hbase : base ≤ w.heap.size) :
    w1.ownsRow base 9 1 v1 (l ++ [t]).length ((l ++ [t]).map Tv) ∧ Below base w w1 := by
  refine ⟨by simpa [Tv] using hown1, ?_⟩
  have hs := hbel.size
  refine (hbel.alloc (by omega) o).grown hg (by simp; omega) ?_
  intro k hk
  exact (hown.lt k hk).1
theorem info_tx : (Tryd.prog.info? 9).map (fun i => (i.zero, i.size, i.bytes)) = some (some (.string ⟨#[]⟩), 1, 16) := by kernel_rfl
theorem info_of {P : Program} {e : TypeId} {z : Option Value} {s b : Nat} (h : (P.info? e).map (fun i => (i.zero, i.size, i.bytes)) = some (z, s, b)) : ∃ i, P.info? e = some i ∧ i.zero = z ∧ i.size = s ∧ i.bytes = b := by
  cases hi : P.info? e with
  | none => rw [hi] at h; cases h
  | some i =>
    rw [hi] at h
    simp only [Option.map_some, Option.some.injEq, Prod.mk.injEq] at h
    exact ⟨i, rfl, h.1, h.2.1, h.2.2⟩
/-- how Clean ends -/
def Nn.clEnd : Option (List Nn.Name) → List UInt8 × Int
  | none => ([], 8)
  | some l => Nn.join l
/-- what Clean answers -/
def ClOut (p : List UInt8) (w : World) (e : Ending) (w' : World) : Prop :=
  e = .returned (.tuple #[St (Nn.clean p).1, .int .i64 (Nn.clean p).2]) ∧ Below w.heap.size w w'
theorem Nn.stk_skip {st : List Nn.Name} {s : Nn.Name} {r : List Nn.Name} (h : s = [] ∨ s = [46]) : Nn.stk st (s :: r) = Nn.stk st r := by
  rw [Nn.stk, if_neg (by rcases h with rfl | rfl <;> simp), if_pos h]
theorem Nn.stk_up {st : List Nn.Name} {r : List Nn.Name} : Nn.stk st ([46, 46] :: r) = if st = [] then none else Nn.stk st.dropLast r := by
  rw [Nn.stk, if_pos rfl]
theorem Nn.stk_keep {st : List Nn.Name} {s : Nn.Name} {r : List Nn.Name} (h0 : s ≠ []) (h1 : s ≠ [46]) (h2 : s ≠ [46, 46]) : Nn.stk st (s :: r) = Nn.stk (st ++ [s]) r := by
  rw [Nn.stk, if_neg h2, if_neg (by simp only [not_or]; exact ⟨h0, h1⟩)]
/-- one part of the text, and what is left -/
theorem CutR.next {s t r : ByteArray} {m : Bool} {st : List Nn.Name} {Z : Option (List Nn.Name)} (h : CutR s t r m) (hz : Nn.stk st (Nn.cut s.data.toList) = Z) : Nn.stk st (t.data.toList :: (if m then Nn.cut r.data.toList else [])) = Z := by
  rcases h with ⟨rfl, h, _⟩ | ⟨rfl, h, _⟩
  · rw [h] at hz; exact hz
  · rw [h] at hz; exact hz
theorem CutR.less {s t r : ByteArray} {m : Bool} (h : CutR s t r m) : (if m then r.size + 1 else 0) < s.size + 1 ∧ t.size + (if m then r.size else 0) ≤ s.size := by
  rcases h with ⟨rfl, _, h⟩ | ⟨rfl, _, h⟩
  · simp only [if_true]; omega
  · simp only [Bool.false_eq_true, if_false]; omega
/-- how far Clean is: what is kept, what is left, whether there is more -/
structure ClS (Z : Option (List Nn.Name)) (n : Nat) (K : List ByteArray) (left : ByteArray) (m : Bool) : Prop where
  stk : Nn.stk (dl K) (if m then Nn.cut left.data.toList else []) = Z
  few : ∀ s ∈ K, s.size ≤ n
  len : K.length + (if m then left.size else 0) ≤ n
  small : (if m then left.size else 0) ≤ n
theorem dl_app (l : List ByteArray) (t : ByteArray) : dl (l ++ [t]) = dl l ++ [t.data.toList] := by simp [dl]
theorem dl_drop (l : List ByteArray) : dl l.dropLast = (dl l).dropLast := by simp [dl, List.map_dropLast]
end Go.Proofs.YtfcnlfblfennaaaDoor
