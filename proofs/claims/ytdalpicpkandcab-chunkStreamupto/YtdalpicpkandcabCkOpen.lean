/-
  A Cut handed in by value, read as data: opened, and shut.
-/
import Derived.Test.YtdalpicpkandcabCkCheck
import Derived.OpenShut
import Derived.Lib.SmallJoins
import Derived.DataShut
import Derived.WideShapes
import Derived.Deep.Strs
namespace Go.Proofs.Ytdalpicpkandcab
open Go.RowKit Go.ChangeShapes Go.WideShapes Go.Deep Go.Joins

section
variable {H : Type} {enc : TypeId × Value → H} {w : World} {base : Nat} {spare : Nat → Bool} {held : Bool}
def cutD (H : Type) (a b c : Int) : DataW H := .agg [.lit (.int .i64 a), .lit (.int .i64 b), .lit (.int .i64 c)]
theorem open_cut {r : Reach} {b0 : Nat} {v : Value} {d : DataW H} {p : List MemPlace} (hv : Value.okWide Try.prog w r b0 23 v) (h : DataW.Trod enc Try.prog w base spare held 23 v d p) :
    ∃ a b c : Int, v = cutV a b c ∧ d = cutD H a b c ∧ p = [] ∧ (Lit.int .i64 a).wf = true ∧ (Lit.int .i64 b).wf = true ∧ (Lit.int .i64 c).wf = true := by
  obtain ⟨v0, v1, v2, y0, y1, y2, n, rfl, rfl, rfl, h0, h1, h2⟩ := open_agg3 Try.underlying23 (by kernel_rfl) (by kernel_rfl) hv h
  obtain ⟨a, ha, hy0, w0⟩ := DataW.trod_int Try.underlying3 h0
  obtain ⟨b, hb, hy1, w1⟩ := DataW.trod_int Try.underlying3 h1
  obtain ⟨c, hc, hy2, w2⟩ := DataW.trod_int Try.underlying3 h2
  obtain rfl : v0 = .int .i64 a := by simpa using ha
  obtain rfl : v1 = .int .i64 b := by simpa using hb
  obtain rfl : v2 = .int .i64 c := by simpa using hc
  subst hy0 hy1 hy2
  exact ⟨a, b, c, rfl, rfl, rfl, w0, w1, w2⟩
theorem shut_cut {a b c : Int} (ha : (Lit.int .i64 a).wf = true) (hb : (Lit.int .i64 b).wf = true) (hc : (Lit.int .i64 c).wf = true) :
    DataW.Trod enc Try.prog w base spare held 23 (cutV a b c) (cutD H a b c) [] :=
  shut_agg3 (y0 := (.lit (.int .i64 a), [])) (y1 := (.lit (.int .i64 b), [])) (y2 := (.lit (.int .i64 c), [])) Try.underlying23 (by kernel_rfl) (by kernel_rfl) ⟨_, trod_int_mk 0 Try.underlying3 ha⟩ ⟨_, trod_int_mk 0 Try.underlying3 hb⟩ ⟨_, trod_int_mk 0 Try.underlying3 hc⟩
end
end Go.Proofs.Ytdalpicpkandcab
