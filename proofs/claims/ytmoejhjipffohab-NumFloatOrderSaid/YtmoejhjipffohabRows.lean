/-
  No cell of these rows narrows 'for every input' (looked for: loops, veiled, ifaces, maps, wideKeys, modest, calm, conditions, laid).
  DERIVED. THE GIVEN ROWS OF THIS SEAT. 3 by the template 'for every input the law returns true; each argument reads behind the call as it read before'; 0 by the template 'total and deterministic' (their statements: YtmoejhjipffohabTotals.lean).
  GIVEN WITH THE SEED: the statements are not yours to turn. If you find one false, say at which input.
  Laid BY PROGRAM, IN A SANDBOX (cutbox-rows.mjs): the forced cells as the released guide's own fill.sh prints them over the translation 5bc3e3f0450807c9… (all of the seat's roots in one cut). By AI agents, Wed Nov 11 2026. No macro, syntax, notation, axiom, sorry.
-/
import Derived.Test.YtmoejhjipffohabChecked
import GoSem.Claim
import GoSem.ClaimJoined
import GoSem.ClaimMapViews
import Derived.JoinedTies
import Derived.KernelRfl
namespace Go.Proofs.Ytmoejhjipffohab
/- THE CELL 'sum', in the pinned program and in every row, IS THE sha256 OF THE DUMP (.gsa) THAT YtmoejhjipffohabProg.lean LOADS. Nothing in Lean hashes anything: it is a label: what it is worth is what the hold of that sum in a sandbox is worth. -/
noncomputable def Try.pinned : Pinned := { name := "ytmoejhjipffohab", sum := "5bc3e3f0450807c9424da0cd933c29ac2185a1754d00f9e0584f57b633802d12", checked := Try.checked }
namespace Rows
def none {H : Type} : Left H := { results := [], args := [] }

/-- 'lumkeep.NumOrder': WHATEVER THE INPUT: true; the input reads as it did. -/
def numOrderSpec : ChangeSpec := { name := "numOrder", fn := fun _ => fun
  | [d1, d2, d3, d4, d5, d6] => { results := [.lit (.bool true)], args := [d1, d2, d3, d4, d5, d6] }
  | _ => none }
def numOrderRow : OpenClaim := { program := "ytmoejhjipffohab", sum := "5bc3e3f0450807c9424da0cd933c29ac2185a1754d00f9e0584f57b633802d12", func := "lumberroom/lumkeep.NumOrder", spec := "numOrder", apart := false }
def NumOrderSaid : Prop := numOrderRow.holds Try.pinned (OpenSpec.ofChange numOrderSpec)

/-- ITS FALSE NEIGHBOUR: 'it returns false'. Refute it at one input. -/
def numOrderWrong : ChangeSpec := { name := "numOrder", fn := fun _ => fun
  | [d1, d2, d3, d4, d5, d6] => { results := [.lit (.bool false)], args := [d1, d2, d3, d4, d5, d6] }
  | _ => none }
def NumOrderWrongFalsely : Prop := numOrderRow.holds Try.pinned (OpenSpec.ofChange numOrderWrong)

/-- 'lumkeep.NumFloatOrder': WHATEVER THE INPUT: true; the input reads as it did. -/
def numFloatOrderSpec : ChangeSpec := { name := "numFloatOrder", fn := fun _ => fun
  | [d1, d2] => { results := [.lit (.bool true)], args := [d1, d2] }
  | _ => none }
def numFloatOrderRow : OpenClaim := { program := "ytmoejhjipffohab", sum := "5bc3e3f0450807c9424da0cd933c29ac2185a1754d00f9e0584f57b633802d12", func := "lumberroom/lumkeep.NumFloatOrder", spec := "numFloatOrder", inPlace := ["math.Float64bits", "math.Float64frombits"], apart := false }
def NumFloatOrderSaid : Prop := numFloatOrderRow.holds Try.pinned (OpenSpec.ofChange numFloatOrderSpec)

/-- ITS FALSE NEIGHBOUR: 'it returns false'. Refute it at one input. -/
def numFloatOrderWrong : ChangeSpec := { name := "numFloatOrder", fn := fun _ => fun
  | [d1, d2] => { results := [.lit (.bool false)], args := [d1, d2] }
  | _ => none }
def NumFloatOrderWrongFalsely : Prop := numFloatOrderRow.holds Try.pinned (OpenSpec.ofChange numFloatOrderWrong)

/-- 'lumkeep.NumFree': WHATEVER THE INPUT: true; the input reads as it did. -/
def numFreeSpec : ChangeSpec := { name := "numFree", fn := fun _ => fun
  | [d1, d2, d3, d4, d5, d6, d7, d8] => { results := [.lit (.bool true)], args := [d1, d2, d3, d4, d5, d6, d7, d8] }
  | _ => none }
def numFreeRow : OpenClaim := { program := "ytmoejhjipffohab", sum := "5bc3e3f0450807c9424da0cd933c29ac2185a1754d00f9e0584f57b633802d12", func := "lumberroom/lumkeep.NumFree", spec := "numFree", inPlace := ["math.Float64bits"], apart := false }
def NumFreeSaid : Prop := numFreeRow.holds Try.pinned (OpenSpec.ofChange numFreeSpec)

/-- ITS FALSE NEIGHBOUR: 'it returns false'. Refute it at one input. -/
def numFreeWrong : ChangeSpec := { name := "numFree", fn := fun _ => fun
  | [d1, d2, d3, d4, d5, d6, d7, d8] => { results := [.lit (.bool false)], args := [d1, d2, d3, d4, d5, d6, d7, d8] }
  | _ => none }
def NumFreeWrongFalsely : Prop := numFreeRow.holds Try.pinned (OpenSpec.ofChange numFreeWrong)

/- THE SECOND FORM. 'bulk': how many values and letters a reading holds, each counted each time it is reached (what is shared counts as often as it is met; a slice's spare places count too). A statement '..UptoSaid' is the law's where the arguments, and the package variables that the reading takes, are together of bulk at most 1048576: NARROWER than '..Said'. Prove '..Said' where nothing that the law and all that it calls make is longer than what came in: it says more and counts as full. Else prove '..UptoSaid'. A law counts once. -/
mutual
def uptoBulk {H : Type} : DataW H → Nat
  | .lit (.string bytes) => bytes.length + 1
  | .lit _ => 1
  | .nil => 1
  | .ptr d => uptoBulk d + 1
  | .slice elems spare => uptoBulkAll elems + uptoBulkAll spare + 1
  | .agg parts => uptoBulkAll parts + 1
  | .iface _ d => uptoBulk d + 1
  | .map entries => uptoBulkEntries entries + 1
  | .held _ => 1
def uptoBulkAll {H : Type} : List (DataW H) → Nat
  | [] => 0
  | d :: r => uptoBulk d + uptoBulkAll r
def uptoBulkEntries {H : Type} : List (Lit × DataW H) → Nat
  | [] => 0
  | x :: r => uptoBulkEntry x + uptoBulkEntries r
def uptoBulkEntry {H : Type} : Lit × DataW H → Nat
  | (.string bytes, d) => bytes.length + uptoBulk d + 1
  | (_, d) => uptoBulk d + 1
 end
def uptoSmall : (H : Type) → List (DataW H) → Bool := fun _ ds => decide (uptoBulkAll ds ≤ 1048576)
def OpenSpec.upto (s : _root_.Go.ChangeSpec) : _root_.Go.OpenSpec := { _root_.Go.OpenSpec.ofChange s with cond := some uptoSmall }

/-- 'lumkeep.NumOrder', WHERE WHAT IT READS IS OF BULK AT MOST 1048576: true; the input reads as it did. -/
def numOrderUptoRow : OpenClaim := { program := "ytmoejhjipffohab", sum := "5bc3e3f0450807c9424da0cd933c29ac2185a1754d00f9e0584f57b633802d12", func := "lumberroom/lumkeep.NumOrder", spec := "numOrder", apart := false, narrowed := true }
def NumOrderUptoSaid : Prop := numOrderUptoRow.holds Try.pinned (OpenSpec.upto numOrderSpec)

/-- 'lumkeep.NumFloatOrder', WHERE WHAT IT READS IS OF BULK AT MOST 1048576: true; the input reads as it did. -/
def numFloatOrderUptoRow : OpenClaim := { program := "ytmoejhjipffohab", sum := "5bc3e3f0450807c9424da0cd933c29ac2185a1754d00f9e0584f57b633802d12", func := "lumberroom/lumkeep.NumFloatOrder", spec := "numFloatOrder", inPlace := ["math.Float64bits", "math.Float64frombits"], apart := false, narrowed := true }
def NumFloatOrderUptoSaid : Prop := numFloatOrderUptoRow.holds Try.pinned (OpenSpec.upto numFloatOrderSpec)

/-- 'lumkeep.NumFree', WHERE WHAT IT READS IS OF BULK AT MOST 1048576: true; the input reads as it did. -/
def numFreeUptoRow : OpenClaim := { program := "ytmoejhjipffohab", sum := "5bc3e3f0450807c9424da0cd933c29ac2185a1754d00f9e0584f57b633802d12", func := "lumberroom/lumkeep.NumFree", spec := "numFree", inPlace := ["math.Float64bits"], apart := false, narrowed := true }
def NumFreeUptoSaid : Prop := numFreeUptoRow.holds Try.pinned (OpenSpec.upto numFreeSpec)

end Rows
end Go.Proofs.Ytmoejhjipffohab
