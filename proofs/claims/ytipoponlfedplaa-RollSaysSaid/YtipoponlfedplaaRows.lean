/-
  No cell of these rows narrows 'for every input' (looked for: loops, veiled, ifaces, maps, wideKeys, modest, calm, conditions, laid).
  DERIVED. THE GIVEN ROWS OF THIS SEAT. 5 by the template 'for every input the law returns true; each argument reads behind the call as it read before'; 0 by the template 'total and deterministic' (their statements: YtipoponlfedplaaTotals.lean).
  GIVEN WITH THE SEED: the statements are not yours to turn. If you find one false, say at which input.
  Laid BY PROGRAM, IN A SANDBOX (cutbox-rows.mjs): the forced cells as the released guide's own fill.sh prints them over the translation 496ef7e9e564dfd3… (all of the seat's roots in one cut). By AI agents, Wed Nov 11 2026. No macro, syntax, notation, axiom, sorry.
-/
import Derived.Test.YtipoponlfedplaaChecked
import GoSem.Claim
import GoSem.ClaimJoined
import GoSem.ClaimMapViews
import Derived.JoinedTies
import Derived.KernelRfl
namespace Go.Proofs.Ytipoponlfedplaa
/- THE CELL 'sum', in the pinned program and in every row, IS THE sha256 OF THE DUMP (.gsa) THAT YtipoponlfedplaaProg.lean LOADS. Nothing in Lean hashes anything: it is a label: what it is worth is what the hold of that sum in a sandbox is worth. -/
noncomputable def Try.pinned : Pinned := { name := "ytipoponlfedplaa", sum := "496ef7e9e564dfd3fa75b7fd280f0f5eb351d8e5d11821b6ba128c1bd3ab5587", checked := Try.checked }
namespace Rows
def none {H : Type} : Left H := { results := [], args := [] }

/-- 'lumlaw.RollSays': WHATEVER THE INPUT: true; the input reads as it did. -/
def rollSaysSpec : ChangeSpec := { name := "rollSays", fn := fun _ => fun
  | [d1, d2, d3, d4, d5] => { results := [.lit (.bool true)], args := [d1, d2, d3, d4, d5] }
  | _ => none }
def rollSaysRow : OpenClaim := { program := "ytipoponlfedplaa", sum := "496ef7e9e564dfd3fa75b7fd280f0f5eb351d8e5d11821b6ba128c1bd3ab5587", func := "lumberroom/lumlaw.RollSays", spec := "rollSays", apart := false }
def RollSaysSaid : Prop := rollSaysRow.holds Try.pinned (OpenSpec.ofChange rollSaysSpec)

/-- ITS FALSE NEIGHBOUR: 'it returns false'. Refute it at one input. -/
def rollSaysWrong : ChangeSpec := { name := "rollSays", fn := fun _ => fun
  | [d1, d2, d3, d4, d5] => { results := [.lit (.bool false)], args := [d1, d2, d3, d4, d5] }
  | _ => none }
def RollSaysWrongFalsely : Prop := rollSaysRow.holds Try.pinned (OpenSpec.ofChange rollSaysWrong)

/-- 'lumkeep.RollField': WHATEVER THE INPUT: true; the input reads as it did. -/
def rollFieldSpec : ChangeSpec := { name := "rollField", fn := fun _ => fun
  | [d1, d2, d3] => { results := [.lit (.bool true)], args := [d1, d2, d3] }
  | _ => none }
def rollFieldRow : OpenClaim := { program := "ytipoponlfedplaa", sum := "496ef7e9e564dfd3fa75b7fd280f0f5eb351d8e5d11821b6ba128c1bd3ab5587", func := "lumberroom/lumkeep.RollField", spec := "rollField", apart := false }
def RollFieldSaid : Prop := rollFieldRow.holds Try.pinned (OpenSpec.ofChange rollFieldSpec)

/-- ITS FALSE NEIGHBOUR: 'it returns false'. Refute it at one input. -/
def rollFieldWrong : ChangeSpec := { name := "rollField", fn := fun _ => fun
  | [d1, d2, d3] => { results := [.lit (.bool false)], args := [d1, d2, d3] }
  | _ => none }
def RollFieldWrongFalsely : Prop := rollFieldRow.holds Try.pinned (OpenSpec.ofChange rollFieldWrong)

/-- 'lumkeep.RollFrobenius': WHATEVER THE INPUT: true; the input reads as it did. -/
def rollFrobeniusSpec : ChangeSpec := { name := "rollFrobenius", fn := fun _ => fun
  | [d1, d2] => { results := [.lit (.bool true)], args := [d1, d2] }
  | _ => none }
def rollFrobeniusRow : OpenClaim := { program := "ytipoponlfedplaa", sum := "496ef7e9e564dfd3fa75b7fd280f0f5eb351d8e5d11821b6ba128c1bd3ab5587", func := "lumberroom/lumkeep.RollFrobenius", spec := "rollFrobenius", unfollowed := true, recurses := true, apart := false }
def RollFrobeniusSaid : Prop := rollFrobeniusRow.holds Try.pinned (OpenSpec.ofChange rollFrobeniusSpec)

/-- ITS FALSE NEIGHBOUR: 'it returns false'. Refute it at one input. -/
def rollFrobeniusWrong : ChangeSpec := { name := "rollFrobenius", fn := fun _ => fun
  | [d1, d2] => { results := [.lit (.bool false)], args := [d1, d2] }
  | _ => none }
def RollFrobeniusWrongFalsely : Prop := rollFrobeniusRow.holds Try.pinned (OpenSpec.ofChange rollFrobeniusWrong)

/-- 'lumkeep.RollForgets': WHATEVER THE INPUT: true; the input reads as it did. -/
def rollForgetsSpec : ChangeSpec := { name := "rollForgets", fn := fun _ => fun
  | [d1, d2] => { results := [.lit (.bool true)], args := [d1, d2] }
  | _ => none }
def rollForgetsRow : OpenClaim := { program := "ytipoponlfedplaa", sum := "496ef7e9e564dfd3fa75b7fd280f0f5eb351d8e5d11821b6ba128c1bd3ab5587", func := "lumberroom/lumkeep.RollForgets", spec := "rollForgets", apart := false }
def RollForgetsSaid : Prop := rollForgetsRow.holds Try.pinned (OpenSpec.ofChange rollForgetsSpec)

/-- ITS FALSE NEIGHBOUR: 'it returns false'. Refute it at one input. -/
def rollForgetsWrong : ChangeSpec := { name := "rollForgets", fn := fun _ => fun
  | [d1, d2] => { results := [.lit (.bool false)], args := [d1, d2] }
  | _ => none }
def RollForgetsWrongFalsely : Prop := rollForgetsRow.holds Try.pinned (OpenSpec.ofChange rollForgetsWrong)

/-- 'lumkeep.RollLinear': WHATEVER THE INPUT: true; the input reads as it did. -/
def rollLinearSpec : ChangeSpec := { name := "rollLinear", fn := fun _ => fun
  | [d1, d2] => { results := [.lit (.bool true)], args := [d1, d2] }
  | _ => none }
def rollLinearRow : OpenClaim := { program := "ytipoponlfedplaa", sum := "496ef7e9e564dfd3fa75b7fd280f0f5eb351d8e5d11821b6ba128c1bd3ab5587", func := "lumberroom/lumkeep.RollLinear", spec := "rollLinear", apart := false }
def RollLinearSaid : Prop := rollLinearRow.holds Try.pinned (OpenSpec.ofChange rollLinearSpec)

/-- ITS FALSE NEIGHBOUR: 'it returns false'. Refute it at one input. -/
def rollLinearWrong : ChangeSpec := { name := "rollLinear", fn := fun _ => fun
  | [d1, d2] => { results := [.lit (.bool false)], args := [d1, d2] }
  | _ => none }
def RollLinearWrongFalsely : Prop := rollLinearRow.holds Try.pinned (OpenSpec.ofChange rollLinearWrong)

/- THE SECOND FORM. 'bulk': how many values and letters a reading holds, each counted each time it is reached (what is shared counts as often as it is met; a slice's spare places count too). A statement '..UptoSaid' is the law's where the arguments, and the package variables that the reading takes, are together of bulk at most 1048576: NARROWER than '..Said'. Prove '..Said' where nothing that the law and all that it calls make is longer than what came in: it says more and counts as full. Else prove '..UptoSaid'. A law counts once. -/
mutual
def uptoBulk {H : Type} : DataW H → Nat
  | .lit (.string bytes) => bytes.length + 1
  | .lit _ => 1
  | .nil => 1
  | .ptr d => uptoBulk d + 1
  | .slice elems spare => uptoBulkAll elems + uptoBulkAll spare + 1
  | .agg parts => uptoBulkAll parts + 1
  | .iface _ d => uptoBulk d + 1
  | .map entries => uptoBulkEntries entries + 1
  | .held _ => 1
def uptoBulkAll {H : Type} : List (DataW H) → Nat
  | [] => 0
  | d :: r => uptoBulk d + uptoBulkAll r
def uptoBulkEntries {H : Type} : List (Lit × DataW H) → Nat
  | [] => 0
  | x :: r => uptoBulkEntry x + uptoBulkEntries r
def uptoBulkEntry {H : Type} : Lit × DataW H → Nat
  | (.string bytes, d) => bytes.length + uptoBulk d + 1
  | (_, d) => uptoBulk d + 1
 end
def uptoSmall : (H : Type) → List (DataW H) → Bool := fun _ ds => decide (uptoBulkAll ds ≤ 1048576)
def OpenSpec.upto (s : _root_.Go.ChangeSpec) : _root_.Go.OpenSpec := { _root_.Go.OpenSpec.ofChange s with cond := some uptoSmall }

/-- 'lumlaw.RollSays', WHERE WHAT IT READS IS OF BULK AT MOST 1048576: true; the input reads as it did. -/
def rollSaysUptoRow : OpenClaim := { program := "ytipoponlfedplaa", sum := "496ef7e9e564dfd3fa75b7fd280f0f5eb351d8e5d11821b6ba128c1bd3ab5587", func := "lumberroom/lumlaw.RollSays", spec := "rollSays", apart := false, narrowed := true }
def RollSaysUptoSaid : Prop := rollSaysUptoRow.holds Try.pinned (OpenSpec.upto rollSaysSpec)

/-- 'lumkeep.RollField', WHERE WHAT IT READS IS OF BULK AT MOST 1048576: true; the input reads as it did. -/
def rollFieldUptoRow : OpenClaim := { program := "ytipoponlfedplaa", sum := "496ef7e9e564dfd3fa75b7fd280f0f5eb351d8e5d11821b6ba128c1bd3ab5587", func := "lumberroom/lumkeep.RollField", spec := "rollField", apart := false, narrowed := true }
def RollFieldUptoSaid : Prop := rollFieldUptoRow.holds Try.pinned (OpenSpec.upto rollFieldSpec)

/-- 'lumkeep.RollFrobenius', WHERE WHAT IT READS IS OF BULK AT MOST 1048576: true; the input reads as it did. -/
def rollFrobeniusUptoRow : OpenClaim := { program := "ytipoponlfedplaa", sum := "496ef7e9e564dfd3fa75b7fd280f0f5eb351d8e5d11821b6ba128c1bd3ab5587", func := "lumberroom/lumkeep.RollFrobenius", spec := "rollFrobenius", unfollowed := true, recurses := true, apart := false, narrowed := true }
def RollFrobeniusUptoSaid : Prop := rollFrobeniusUptoRow.holds Try.pinned (OpenSpec.upto rollFrobeniusSpec)

/-- 'lumkeep.RollForgets', WHERE WHAT IT READS IS OF BULK AT MOST 1048576: true; the input reads as it did. -/
def rollForgetsUptoRow : OpenClaim := { program := "ytipoponlfedplaa", sum := "496ef7e9e564dfd3fa75b7fd280f0f5eb351d8e5d11821b6ba128c1bd3ab5587", func := "lumberroom/lumkeep.RollForgets", spec := "rollForgets", apart := false, narrowed := true }
def RollForgetsUptoSaid : Prop := rollForgetsUptoRow.holds Try.pinned (OpenSpec.upto rollForgetsSpec)

/-- 'lumkeep.RollLinear', WHERE WHAT IT READS IS OF BULK AT MOST 1048576: true; the input reads as it did. -/
def rollLinearUptoRow : OpenClaim := { program := "ytipoponlfedplaa", sum := "496ef7e9e564dfd3fa75b7fd280f0f5eb351d8e5d11821b6ba128c1bd3ab5587", func := "lumberroom/lumkeep.RollLinear", spec := "rollLinear", apart := false, narrowed := true }
def RollLinearUptoSaid : Prop := rollLinearUptoRow.holds Try.pinned (OpenSpec.upto rollLinearSpec)

end Rows
end Go.Proofs.Ytipoponlfedplaa
