/-
  Plain facts (no Go in here): no answer of a Put is a beginning of another one of it.
-/
import Derived.Test.YtmoejhjipffohabMathBack
namespace Go.Proofs.Ytmoejhjipffohab
namespace Nm

theorem pre_split {u v : List UInt8} (h : Lib.hasPrefix u v = true) : ∃ m, u = v ++ m := by
  rw [Lib.hasPrefix, List.isPrefixOf_iff_prefix] at h
  obtain ⟨m, hm⟩ := h
  exact ⟨m, hm.symm⟩
theorem pre_self (u : List UInt8) : Lib.hasPrefix u u = true := by
  rw [Lib.hasPrefix, List.isPrefixOf_iff_prefix]
  exact List.prefix_refl u
theorem pre_iff {u v : List UInt8} {p : Bool} (h1 : p = true → u = v) (h2 : ∀ m, u = v ++ m → p = true) : Lib.hasPrefix u v = p := by
  rw [Bool.eq_iff_iff]
  constructor
  · intro h
    obtain ⟨m, hm⟩ := pre_split h
    exact h2 m hm
  · intro h
    rw [h1 h]
    exact pre_self _
theorem put_free (a b : Nat) (ha : a < 256 ^ 8) (hb : b < 256 ^ 8) : Lib.hasPrefix (put a) (put b) = decide (a = b) := by
  refine pre_iff (fun h => by rw [of_decide_eq_true h]) (fun m hm => decide_eq_true ?_)
  have g1 := get_put a [] ha
  have g2 := get_put b m hb
  rw [List.append_nil, hm, g2] at g1
  exact (congrArg Prod.fst g1).symm
theorem putI_free (i j : Int) (i0 : -9223372036854775808 ≤ i) (i1 : i ≤ 9223372036854775807) (j0 : -9223372036854775808 ≤ j) (j1 : j ≤ 9223372036854775807) :
    Lib.hasPrefix (putI i) (putI j) = decide (i = j) := by
  refine pre_iff (fun h => by rw [of_decide_eq_true h]) (fun m hm => decide_eq_true ?_)
  have g1 := getI_putI i [] i0 i1
  have g2 := getI_putI j m j0 j1
  rw [List.append_nil, hm, g2] at g1
  exact (congrArg Prod.fst g1).symm
theorem putT_free (s t : List UInt8) (hs : s.length ≤ 1024) (ht : t.length ≤ 1024) : Lib.hasPrefix (putT s) (putT t) = decide (s = t) := by
  refine pre_iff (fun h => by rw [of_decide_eq_true h]) (fun m hm => decide_eq_true ?_)
  have g1 := getT_putT s [] hs
  have g2 := getT_putT t m ht
  rw [List.append_nil, hm, g2] at g1
  exact (congrArg Prod.fst g1).symm
theorem putF_free (x y : Nat) (hx : x < 18446744073709551616) (hy : y < 18446744073709551616) (nx : nanB x = false) (ny : nanB y = false) : Lib.hasPrefix (putF x) (putF y) = decide (x = y) := by
  refine pre_iff (fun h => by rw [of_decide_eq_true h]) (fun m hm => decide_eq_true ?_)
  have g1 := getF_putF x [] hx
  have g2 := getF_putF y m hy
  rw [List.append_nil, hm, g2] at g1
  have h := congrArg Prod.fst g1
  simp only [oneNaN, nx, ny] at h
  exact h.symm
end Nm
end Go.Proofs.Ytmoejhjipffohab
