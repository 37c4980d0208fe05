/-
  No cell of these rows narrows 'for every input' (looked for: loops, veiled, ifaces, maps, wideKeys, modest, calm, conditions, laid).
  DERIVED. THE GIVEN ROWS OF THIS SEAT. 5 by the template 'for every input the law returns true; each argument reads behind the call as it read before'; 0 by the template 'total and deterministic' (their statements: YtkkbdgpmgkipbaaTotals.lean).
  GIVEN WITH THE SEED: the statements are not yours to turn. If you find one false, say at which input.
  Laid BY PROGRAM, IN A SANDBOX (cutbox-rows.mjs): the forced cells as the released guide's own fill.sh prints them over the translation 2ab7b75d41645e15… (all of the seat's roots in one cut). By AI agents, Wed Nov 11 2026. No macro, syntax, notation, axiom, sorry.
-/
import Derived.Test.YtkkbdgpmgkipbaaChecked
import GoSem.Claim
import GoSem.ClaimJoined
import GoSem.ClaimMapViews
import Derived.JoinedTies
import Derived.KernelRfl
namespace Go.Proofs.Ytkkbdgpmgkipbaa
/- THE CELL 'sum', in the pinned program and in every row, IS THE sha256 OF THE DUMP (.gsa) THAT YtkkbdgpmgkipbaaProg.lean LOADS. Nothing in Lean hashes anything: it is a label: what it is worth is what the hold of that sum in a sandbox is worth. -/
noncomputable def Try.pinned : Pinned := { name := "ytkkbdgpmgkipbaa", sum := "2ab7b75d41645e152232ca5e32b5bf4f392ebe67d8965ef00aab7884665bfe52", checked := Try.checked }
namespace Rows
def none {H : Type} : Left H := { results := [], args := [] }

/-- 'lumlaw.LzSays': WHATEVER THE INPUT: true; the input reads as it did. -/
def lzSaysSpec : ChangeSpec := { name := "lzSays", fn := fun _ => fun
  | [d1, d2, d3] => { results := [.lit (.bool true)], args := [d1, d2, d3] }
  | _ => none }
def lzSaysRow : OpenClaim := { program := "ytkkbdgpmgkipbaa", sum := "2ab7b75d41645e152232ca5e32b5bf4f392ebe67d8965ef00aab7884665bfe52", func := "lumberroom/lumlaw.LzSays", spec := "lzSays", inPlace := ["internal/abi.NoEscape", "internal/bytealg.MakeNoZero"], apart := false }
def LzSaysSaid : Prop := lzSaysRow.holds Try.pinned (OpenSpec.ofChange lzSaysSpec)

/-- ITS FALSE NEIGHBOUR: 'it returns false'. Refute it at one input. -/
def lzSaysWrong : ChangeSpec := { name := "lzSays", fn := fun _ => fun
  | [d1, d2, d3] => { results := [.lit (.bool false)], args := [d1, d2, d3] }
  | _ => none }
def LzSaysWrongFalsely : Prop := lzSaysRow.holds Try.pinned (OpenSpec.ofChange lzSaysWrong)

/-- 'lumlaw.LzGreedy': WHATEVER THE INPUT: true; the input reads as it did. -/
def lzGreedySpec : ChangeSpec := { name := "lzGreedy", fn := fun _ => fun
  | [d] => { results := [.lit (.bool true)], args := [d] }
  | _ => none }
def lzGreedyRow : OpenClaim := { program := "ytkkbdgpmgkipbaa", sum := "2ab7b75d41645e152232ca5e32b5bf4f392ebe67d8965ef00aab7884665bfe52", func := "lumberroom/lumlaw.LzGreedy", spec := "lzGreedy", apart := false }
def LzGreedySaid : Prop := lzGreedyRow.holds Try.pinned (OpenSpec.ofChange lzGreedySpec)

/-- ITS FALSE NEIGHBOUR: 'it returns false'. Refute it at one input. -/
def lzGreedyWrong : ChangeSpec := { name := "lzGreedy", fn := fun _ => fun
  | [d] => { results := [.lit (.bool false)], args := [d] }
  | _ => none }
def LzGreedyWrongFalsely : Prop := lzGreedyRow.holds Try.pinned (OpenSpec.ofChange lzGreedyWrong)

/-- 'lumkeep.LzBack': WHATEVER THE INPUT: true; the input reads as it did. -/
def lzBackSpec : ChangeSpec := { name := "lzBack", fn := fun _ => fun
  | [d] => { results := [.lit (.bool true)], args := [d] }
  | _ => none }
def lzBackRow : OpenClaim := { program := "ytkkbdgpmgkipbaa", sum := "2ab7b75d41645e152232ca5e32b5bf4f392ebe67d8965ef00aab7884665bfe52", func := "lumberroom/lumkeep.LzBack", spec := "lzBack", apart := false }
def LzBackSaid : Prop := lzBackRow.holds Try.pinned (OpenSpec.ofChange lzBackSpec)

/-- ITS FALSE NEIGHBOUR: 'it returns false'. Refute it at one input. -/
def lzBackWrong : ChangeSpec := { name := "lzBack", fn := fun _ => fun
  | [d] => { results := [.lit (.bool false)], args := [d] }
  | _ => none }
def LzBackWrongFalsely : Prop := lzBackRow.holds Try.pinned (OpenSpec.ofChange lzBackWrong)

/-- 'lumkeep.LzLeast': WHATEVER THE INPUT: true; the input reads as it did. -/
def lzLeastSpec : ChangeSpec := { name := "lzLeast", fn := fun _ => fun
  | [d] => { results := [.lit (.bool true)], args := [d] }
  | _ => none }
def lzLeastRow : OpenClaim := { program := "ytkkbdgpmgkipbaa", sum := "2ab7b75d41645e152232ca5e32b5bf4f392ebe67d8965ef00aab7884665bfe52", func := "lumberroom/lumkeep.LzLeast", spec := "lzLeast", apart := false }
def LzLeastSaid : Prop := lzLeastRow.holds Try.pinned (OpenSpec.ofChange lzLeastSpec)

/-- ITS FALSE NEIGHBOUR: 'it returns false'. Refute it at one input. -/
def lzLeastWrong : ChangeSpec := { name := "lzLeast", fn := fun _ => fun
  | [d] => { results := [.lit (.bool false)], args := [d] }
  | _ => none }
def LzLeastWrongFalsely : Prop := lzLeastRow.holds Try.pinned (OpenSpec.ofChange lzLeastWrong)

/-- 'lumkeep.LzPacked': WHATEVER THE INPUT: true; the input reads as it did. -/
def lzPackedSpec : ChangeSpec := { name := "lzPacked", fn := fun _ => fun
  | [d1, d2] => { results := [.lit (.bool true)], args := [d1, d2] }
  | _ => none }
def lzPackedRow : OpenClaim := { program := "ytkkbdgpmgkipbaa", sum := "2ab7b75d41645e152232ca5e32b5bf4f392ebe67d8965ef00aab7884665bfe52", func := "lumberroom/lumkeep.LzPacked", spec := "lzPacked", apart := false }
def LzPackedSaid : Prop := lzPackedRow.holds Try.pinned (OpenSpec.ofChange lzPackedSpec)

/-- ITS FALSE NEIGHBOUR: 'it returns false'. Refute it at one input. -/
def lzPackedWrong : ChangeSpec := { name := "lzPacked", fn := fun _ => fun
  | [d1, d2] => { results := [.lit (.bool false)], args := [d1, d2] }
  | _ => none }
def LzPackedWrongFalsely : Prop := lzPackedRow.holds Try.pinned (OpenSpec.ofChange lzPackedWrong)

/- THE SECOND FORM. 'bulk': how many values and letters a reading holds, each counted each time it is reached (what is shared counts as often as it is met; a slice's spare places count too). A statement '..UptoSaid' is the law's where the arguments, and the package variables that the reading takes, are together of bulk at most 1048576: NARROWER than '..Said'. Prove '..Said' where nothing that the law and all that it calls make is longer than what came in: it says more and counts as full. Else prove '..UptoSaid'. A law counts once. -/
mutual
def uptoBulk {H : Type} : DataW H → Nat
  | .lit (.string bytes) => bytes.length + 1
  | .lit _ => 1
  | .nil => 1
  | .ptr d => uptoBulk d + 1
  | .slice elems spare => uptoBulkAll elems + uptoBulkAll spare + 1
  | .agg parts => uptoBulkAll parts + 1
  | .iface _ d => uptoBulk d + 1
  | .map entries => uptoBulkEntries entries + 1
  | .held _ => 1
def uptoBulkAll {H : Type} : List (DataW H) → Nat
  | [] => 0
  | d :: r => uptoBulk d + uptoBulkAll r
def uptoBulkEntries {H : Type} : List (Lit × DataW H) → Nat
  | [] => 0
  | x :: r => uptoBulkEntry x + uptoBulkEntries r
def uptoBulkEntry {H : Type} : Lit × DataW H → Nat
  | (.string bytes, d) => bytes.length + uptoBulk d + 1
  | (_, d) => uptoBulk d + 1
 end
def uptoSmall : (H : Type) → List (DataW H) → Bool := fun _ ds => decide (uptoBulkAll ds ≤ 1048576)
def OpenSpec.upto (s : _root_.Go.ChangeSpec) : _root_.Go.OpenSpec := { _root_.Go.OpenSpec.ofChange s with cond := some uptoSmall }

/-- 'lumlaw.LzSays', WHERE WHAT IT READS IS OF BULK AT MOST 1048576: true; the input reads as it did. -/
def lzSaysUptoRow : OpenClaim := { program := "ytkkbdgpmgkipbaa", sum := "2ab7b75d41645e152232ca5e32b5bf4f392ebe67d8965ef00aab7884665bfe52", func := "lumberroom/lumlaw.LzSays", spec := "lzSays", inPlace := ["internal/abi.NoEscape", "internal/bytealg.MakeNoZero"], apart := false, narrowed := true }
def LzSaysUptoSaid : Prop := lzSaysUptoRow.holds Try.pinned (OpenSpec.upto lzSaysSpec)

/-- 'lumlaw.LzGreedy', WHERE WHAT IT READS IS OF BULK AT MOST 1048576: true; the input reads as it did. -/
def lzGreedyUptoRow : OpenClaim := { program := "ytkkbdgpmgkipbaa", sum := "2ab7b75d41645e152232ca5e32b5bf4f392ebe67d8965ef00aab7884665bfe52", func := "lumberroom/lumlaw.LzGreedy", spec := "lzGreedy", apart := false, narrowed := true }
def LzGreedyUptoSaid : Prop := lzGreedyUptoRow.holds Try.pinned (OpenSpec.upto lzGreedySpec)

/-- 'lumkeep.LzBack', WHERE WHAT IT READS IS OF BULK AT MOST 1048576: true; the input reads as it did. -/
def lzBackUptoRow : OpenClaim := { program := "ytkkbdgpmgkipbaa", sum := "2ab7b75d41645e152232ca5e32b5bf4f392ebe67d8965ef00aab7884665bfe52", func := "lumberroom/lumkeep.LzBack", spec := "lzBack", apart := false, narrowed := true }
def LzBackUptoSaid : Prop := lzBackUptoRow.holds Try.pinned (OpenSpec.upto lzBackSpec)

/-- 'lumkeep.LzLeast', WHERE WHAT IT READS IS OF BULK AT MOST 1048576: true; the input reads as it did. -/
def lzLeastUptoRow : OpenClaim := { program := "ytkkbdgpmgkipbaa", sum := "2ab7b75d41645e152232ca5e32b5bf4f392ebe67d8965ef00aab7884665bfe52", func := "lumberroom/lumkeep.LzLeast", spec := "lzLeast", apart := false, narrowed := true }
def LzLeastUptoSaid : Prop := lzLeastUptoRow.holds Try.pinned (OpenSpec.upto lzLeastSpec)

/-- 'lumkeep.LzPacked', WHERE WHAT IT READS IS OF BULK AT MOST 1048576: true; the input reads as it did. -/
def lzPackedUptoRow : OpenClaim := { program := "ytkkbdgpmgkipbaa", sum := "2ab7b75d41645e152232ca5e32b5bf4f392ebe67d8965ef00aab7884665bfe52", func := "lumberroom/lumkeep.LzPacked", spec := "lzPacked", apart := false, narrowed := true }
def LzPackedUptoSaid : Prop := lzPackedUptoRow.holds Try.pinned (OpenSpec.upto lzPackedSpec)

end Rows
end Go.Proofs.Ytkkbdgpmgkipbaa
