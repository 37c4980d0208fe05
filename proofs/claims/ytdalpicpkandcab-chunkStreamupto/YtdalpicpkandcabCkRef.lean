/-
  What ends and Pieces of package lumref answer.
-/
import Derived.Test.YtdalpicpkandcabCkCheck
import Derived.Test.YtdalpicpkandcabRefOf
import Derived.Test.YtdalpicpkandcabChunkMath2
import Derived.Test.YtdalpicpkandcabQuietSince
import Derived.Deep.Cut
import Derived.Deep.RegionWith
namespace Go.Proofs.Ytdalpicpkandcab
open Go.RowKit

/-- a piece, as it is told -/
def Sv (p : Ck.Bs) : Value := .string ⟨p.toArray⟩
theorem info_str : (Try.prog.info? 9).map (fun i => (i.zero, i.size, i.bytes)) = some (some (.string ⟨#[]⟩), 1, 16) := by kernel_rfl
theorem ext_eq (s : ByteArray) (a b : Nat) : s.extract a b = ⟨((s.data.toList.drop a).take (b - a)).toArray⟩ := by
  apply ByteArray.ext
  apply Array.toList_inj.1
  rw [ByteArray.data_extract]
  simp [List.extract_eq_take_drop]

theorem own_lower {base base' : Nat} {e : TypeId} {k : Nat} {v : Value} {n : Nat} {xs : List Value} {w : World} (h : w.ownsRow base e k v n xs) (hb : base' ≤ base) : w.ownsRow base' e k v n xs := by
  obtain ⟨h1, h2⟩ := h
  refine ⟨h1, ?_⟩
  rcases h2 with h2 | ⟨g, cap, cur, hv, hg, r⟩
  · exact .inl h2
  · exact .inr ⟨g, cap, cur, hv, by omega, r⟩
theorem own_below {base : Nat} {e : TypeId} {k : Nat} {v : Value} {n : Nat} {xs : List Value} {w w' : World} (h : w.ownsRow base e k v n xs) (hb : Below w.heap.size w w') : w'.ownsRow base e k v n xs := by
  obtain ⟨h1, h2⟩ := h
  refine ⟨h1, ?_⟩
  rcases h2 with h2 | ⟨g, cap, cur, hv, hg, hh, r⟩
  · exact .inl h2
  · refine .inr ⟨g, cap, cur, hv, hg, ?_, r⟩
    rw [hb.block g ?_, hh]
    exact (Array.getElem?_eq_some_iff.1 hh).1
theorem rest_le (E : Ck.Bs → Bool) (t : Ck.Bs) : (Ck.pieces E t).2.length ≤ t.length := by
  have h := congrArg List.length (Ck.pieces_join (E := E) t)
  rw [List.length_append] at h
  omega
/-- what is left, and one byte more -/
theorem rest_ext (E : Ck.Bs → Bool) (s : ByteArray) (k : Nat) (hk : k < s.size) :
    s.extract (k - (Ck.pieces E (s.data.toList.take k)).2.length) (k + 1) = ⟨((Ck.pieces E (s.data.toList.take k)).2 ++ [s[k]]).toArray⟩ := by
  rw [ext_eq]
  have hj := Ck.pieces_join (E := E) (s.data.toList.take k)
  have hl : (s.data.toList.take k).length = k := by rw [List.length_take, ← Lib.size_eq]; omega
  generalize (Ck.pieces E (s.data.toList.take k)).1.flatten = f at hj
  generalize (Ck.pieces E (s.data.toList.take k)).2 = r at hj ⊢
  have hfr : f.length + r.length = k := by rw [← List.length_append, hj, hl]
  rw [show k - r.length = f.length from by omega]
  congr 2
  have h1 : (s.data.toList.take (k + 1)).drop f.length = r ++ [s[k]] := by
    rw [take_snoc s k hk, ← hj, List.append_assoc, List.drop_left]
  rw [← h1, List.drop_take]

/-- one piece more behind an owned row -/
theorem own_str {base : Nat} {w wr w1 : World} {v v1 : Value} {l : List Ck.Bs} {e : ByteArray} {o : Obj} (hown : wr.ownsRow base 9 1 v l.length (l.map Sv))
    (hown1 : w1.ownsRow base 9 1 v1 (l.length + 1) (l.map Sv ++ [.string e])) (hg : (wr.alloc o).grownBy w1 v.ownBlock) (hbel : Below base w wr) (hbase : base ≤ w.heap.size) :
    w1.ownsRow base 9 1 v1 (l ++ [e.data.toList]).length ((l ++ [e.data.toList]).map Sv) ∧ Below base w w1 := by
  refine ⟨by simpa [Sv] using hown1, ?_⟩
  have hs := hbel.size
  refine (hbel.alloc (by omega) o).grown hg (by simp; omega) ?_
  intro k hk
  exact (hown.lt k hk).1

theorem sv_of (s : ByteArray) : Sv s.data.toList = .string s := by simp [Sv]
end Go.Proofs.Ytdalpicpkandcab
