/-
  No cell of these rows narrows 'for every input' (looked for: loops, veiled, ifaces, maps, wideKeys, modest, calm, conditions, laid).
  DERIVED. THE GIVEN ROWS OF THIS SEAT. 4 by the template 'for every input the law returns true; each argument reads behind the call as it read before'; 0 by the template 'total and deterministic' (their statements: YtgdkfaphbbdnbaaTotals.lean).
  GIVEN WITH THE SEED: the statements are not yours to turn. If you find one false, say at which input.
  Laid BY PROGRAM, IN A SANDBOX (cutbox-rows.mjs): the forced cells as the released guide's own fill.sh prints them over the translation a106b4c04fa5da7a… (all of the seat's roots in one cut). By AI agents, Wed Nov 11 2026. No macro, syntax, notation, axiom, sorry.
-/
import Derived.Test.YtgdkfaphbbdnbaaChecked
import GoSem.Claim
import GoSem.ClaimJoined
import GoSem.ClaimMapViews
import Derived.JoinedTies
import Derived.KernelRfl
namespace Go.Proofs.Ytgdkfaphbbdnbaa
/- THE CELL 'sum', in the pinned program and in every row, IS THE sha256 OF THE DUMP (.gsa) THAT YtgdkfaphbbdnbaaProg.lean LOADS. Nothing in Lean hashes anything: it is a label: what it is worth is what the hold of that sum in a sandbox is worth. -/
noncomputable def Try.pinned : Pinned := { name := "ytgdkfaphbbdnbaa", sum := "a106b4c04fa5da7a9ecbc0f3f0a8471b73e29fe080cd0d39781483337136af4c", checked := Try.checked }
namespace Rows
def none {H : Type} : Left H := { results := [], args := [] }

/-- 'lumlaw.PressSays': WHATEVER THE INPUT: true; the input reads as it did. -/
def pressSaysSpec : ChangeSpec := { name := "pressSays", fn := fun _ => fun
  | [d] => { results := [.lit (.bool true)], args := [d] }
  | _ => none }
def pressSaysRow : OpenClaim := { program := "ytgdkfaphbbdnbaa", sum := "a106b4c04fa5da7a9ecbc0f3f0a8471b73e29fe080cd0d39781483337136af4c", func := "lumberroom/lumlaw.PressSays", spec := "pressSays", inPlace := ["internal/abi.NoEscape", "internal/bytealg.MakeNoZero"], unfollowed := true, recurses := true, apart := false }
def PressSaysSaid : Prop := pressSaysRow.holds Try.pinned (OpenSpec.ofChange pressSaysSpec)

/-- ITS FALSE NEIGHBOUR: 'it returns false'. Refute it at one input. -/
def pressSaysWrong : ChangeSpec := { name := "pressSays", fn := fun _ => fun
  | [d] => { results := [.lit (.bool false)], args := [d] }
  | _ => none }
def PressSaysWrongFalsely : Prop := pressSaysRow.holds Try.pinned (OpenSpec.ofChange pressSaysWrong)

/-- 'lumlaw.PressOpens': WHATEVER THE INPUT: true; the input reads as it did. -/
def pressOpensSpec : ChangeSpec := { name := "pressOpens", fn := fun _ => fun
  | [d] => { results := [.lit (.bool true)], args := [d] }
  | _ => none }
def pressOpensRow : OpenClaim := { program := "ytgdkfaphbbdnbaa", sum := "a106b4c04fa5da7a9ecbc0f3f0a8471b73e29fe080cd0d39781483337136af4c", func := "lumberroom/lumlaw.PressOpens", spec := "pressOpens", inPlace := ["internal/abi.NoEscape", "internal/bytealg.IndexByteString", "internal/bytealg.IndexString", "internal/bytealg.MakeNoZero"], recurses := true, named := ["internal/bytealg.MaxLen"], apart := false }
def PressOpensSaid : Prop := pressOpensRow.holds Try.pinned (OpenSpec.ofChange pressOpensSpec)

/-- ITS FALSE NEIGHBOUR: 'it returns false'. Refute it at one input. -/
def pressOpensWrong : ChangeSpec := { name := "pressOpens", fn := fun _ => fun
  | [d] => { results := [.lit (.bool false)], args := [d] }
  | _ => none }
def PressOpensWrongFalsely : Prop := pressOpensRow.holds Try.pinned (OpenSpec.ofChange pressOpensWrong)

/-- 'lumkeep.PressBack': WHATEVER THE INPUT: true; the input reads as it did. -/
def pressBackSpec : ChangeSpec := { name := "pressBack", fn := fun _ => fun
  | [d] => { results := [.lit (.bool true)], args := [d] }
  | _ => none }
def pressBackRow : OpenClaim := { program := "ytgdkfaphbbdnbaa", sum := "a106b4c04fa5da7a9ecbc0f3f0a8471b73e29fe080cd0d39781483337136af4c", func := "lumberroom/lumkeep.PressBack", spec := "pressBack", unfollowed := true, recurses := true, apart := false }
def PressBackSaid : Prop := pressBackRow.holds Try.pinned (OpenSpec.ofChange pressBackSpec)

/-- ITS FALSE NEIGHBOUR: 'it returns false'. Refute it at one input. -/
def pressBackWrong : ChangeSpec := { name := "pressBack", fn := fun _ => fun
  | [d] => { results := [.lit (.bool false)], args := [d] }
  | _ => none }
def PressBackWrongFalsely : Prop := pressBackRow.holds Try.pinned (OpenSpec.ofChange pressBackWrong)

/-- 'lumkeep.PressBound': WHATEVER THE INPUT: true; the input reads as it did. -/
def pressBoundSpec : ChangeSpec := { name := "pressBound", fn := fun _ => fun
  | [d] => { results := [.lit (.bool true)], args := [d] }
  | _ => none }
def pressBoundRow : OpenClaim := { program := "ytgdkfaphbbdnbaa", sum := "a106b4c04fa5da7a9ecbc0f3f0a8471b73e29fe080cd0d39781483337136af4c", func := "lumberroom/lumkeep.PressBound", spec := "pressBound", apart := false }
def PressBoundSaid : Prop := pressBoundRow.holds Try.pinned (OpenSpec.ofChange pressBoundSpec)

/-- ITS FALSE NEIGHBOUR: 'it returns false'. Refute it at one input. -/
def pressBoundWrong : ChangeSpec := { name := "pressBound", fn := fun _ => fun
  | [d] => { results := [.lit (.bool false)], args := [d] }
  | _ => none }
def PressBoundWrongFalsely : Prop := pressBoundRow.holds Try.pinned (OpenSpec.ofChange pressBoundWrong)

/- THE SECOND FORM. 'bulk': how many values and letters a reading holds, each counted each time it is reached (what is shared counts as often as it is met; a slice's spare places count too). A statement '..UptoSaid' is the law's where the arguments, and the package variables that the reading takes, are together of bulk at most 1048576: NARROWER than '..Said'. Prove '..Said' where nothing that the law and all that it calls make is longer than what came in: it says more and counts as full. Else prove '..UptoSaid'. A law counts once. -/
mutual
def uptoBulk {H : Type} : DataW H → Nat
  | .lit (.string bytes) => bytes.length + 1
  | .lit _ => 1
  | .nil => 1
  | .ptr d => uptoBulk d + 1
  | .slice elems spare => uptoBulkAll elems + uptoBulkAll spare + 1
  | .agg parts => uptoBulkAll parts + 1
  | .iface _ d => uptoBulk d + 1
  | .map entries => uptoBulkEntries entries + 1
  | .held _ => 1
def uptoBulkAll {H : Type} : List (DataW H) → Nat
  | [] => 0
  | d :: r => uptoBulk d + uptoBulkAll r
def uptoBulkEntries {H : Type} : List (Lit × DataW H) → Nat
  | [] => 0
  | x :: r => uptoBulkEntry x + uptoBulkEntries r
def uptoBulkEntry {H : Type} : Lit × DataW H → Nat
  | (.string bytes, d) => bytes.length + uptoBulk d + 1
  | (_, d) => uptoBulk d + 1
 end
def uptoSmall : (H : Type) → List (DataW H) → Bool := fun _ ds => decide (uptoBulkAll ds ≤ 1048576)
def OpenSpec.upto (s : _root_.Go.ChangeSpec) : _root_.Go.OpenSpec := { _root_.Go.OpenSpec.ofChange s with cond := some uptoSmall }

/-- 'lumlaw.PressSays', WHERE WHAT IT READS IS OF BULK AT MOST 1048576: true; the input reads as it did. -/
def pressSaysUptoRow : OpenClaim := { program := "ytgdkfaphbbdnbaa", sum := "a106b4c04fa5da7a9ecbc0f3f0a8471b73e29fe080cd0d39781483337136af4c", func := "lumberroom/lumlaw.PressSays", spec := "pressSays", inPlace := ["internal/abi.NoEscape", "internal/bytealg.MakeNoZero"], unfollowed := true, recurses := true, apart := false, narrowed := true }
def PressSaysUptoSaid : Prop := pressSaysUptoRow.holds Try.pinned (OpenSpec.upto pressSaysSpec)

/-- 'lumlaw.PressOpens', WHERE WHAT IT READS IS OF BULK AT MOST 1048576: true; the input reads as it did. -/
def pressOpensUptoRow : OpenClaim := { program := "ytgdkfaphbbdnbaa", sum := "a106b4c04fa5da7a9ecbc0f3f0a8471b73e29fe080cd0d39781483337136af4c", func := "lumberroom/lumlaw.PressOpens", spec := "pressOpens", inPlace := ["internal/abi.NoEscape", "internal/bytealg.IndexByteString", "internal/bytealg.IndexString", "internal/bytealg.MakeNoZero"], recurses := true, named := ["internal/bytealg.MaxLen"], apart := false, narrowed := true }
def PressOpensUptoSaid : Prop := pressOpensUptoRow.holds Try.pinned (OpenSpec.upto pressOpensSpec)

/-- 'lumkeep.PressBack', WHERE WHAT IT READS IS OF BULK AT MOST 1048576: true; the input reads as it did. -/
def pressBackUptoRow : OpenClaim := { program := "ytgdkfaphbbdnbaa", sum := "a106b4c04fa5da7a9ecbc0f3f0a8471b73e29fe080cd0d39781483337136af4c", func := "lumberroom/lumkeep.PressBack", spec := "pressBack", unfollowed := true, recurses := true, apart := false, narrowed := true }
def PressBackUptoSaid : Prop := pressBackUptoRow.holds Try.pinned (OpenSpec.upto pressBackSpec)

/-- 'lumkeep.PressBound', WHERE WHAT IT READS IS OF BULK AT MOST 1048576: true; the input reads as it did. -/
def pressBoundUptoRow : OpenClaim := { program := "ytgdkfaphbbdnbaa", sum := "a106b4c04fa5da7a9ecbc0f3f0a8471b73e29fe080cd0d39781483337136af4c", func := "lumberroom/lumkeep.PressBound", spec := "pressBound", apart := false, narrowed := true }
def PressBoundUptoSaid : Prop := pressBoundUptoRow.holds Try.pinned (OpenSpec.upto pressBoundSpec)

end Rows
end Go.Proofs.Ytgdkfaphbbdnbaa
