/-
  No cell of these rows narrows 'for every input' (looked for: loops, veiled, ifaces, maps, wideKeys, modest, calm, conditions, laid).
  DERIVED. THE GIVEN ROWS OF THIS SEAT. 6 by the template 'for every input the law returns true; each argument reads behind the call as it read before'; 0 by the template 'total and deterministic' (their statements: YtllioidjelgafaaTotals.lean).
  GIVEN WITH THE SEED: the statements are not yours to turn. If you find one false, say at which input.
  Laid BY PROGRAM, IN A SANDBOX (cutbox-rows.mjs): the forced cells as the released guide's own fill.sh prints them over the translation 352e776570ca7dca… (all of the seat's roots in one cut). By AI agents, Wed Nov 11 2026. No macro, syntax, notation, axiom, sorry.
-/
import Derived.Test.YtllioidjelgafaaChecked
import GoSem.Claim
import GoSem.ClaimJoined
import GoSem.ClaimMapViews
import Derived.JoinedTies
import Derived.KernelRfl
namespace Go.Proofs.Ytllioidjelgafaa
/- THE CELL 'sum', in the pinned program and in every row, IS THE sha256 OF THE DUMP (.gsa) THAT YtllioidjelgafaaProg.lean LOADS. Nothing in Lean hashes anything: it is a label: what it is worth is what the hold of that sum in a sandbox is worth. -/
noncomputable def Try.pinned : Pinned := { name := "ytllioidjelgafaa", sum := "352e776570ca7dcadc5cf0fc05ad90367aa958a785906d890a91f2310a0b3382", checked := Try.checked }
namespace Rows
def none {H : Type} : Left H := { results := [], args := [] }

/-- 'lumlaw.IndexSays': WHATEVER THE INPUT: true; the input reads as it did. -/
def indexSaysSpec : ChangeSpec := { name := "indexSays", fn := fun _ => fun
  | [d1, d2] => { results := [.lit (.bool true)], args := [d1, d2] }
  | _ => none }
def indexSaysRow : OpenClaim := { program := "ytllioidjelgafaa", sum := "352e776570ca7dcadc5cf0fc05ad90367aa958a785906d890a91f2310a0b3382", func := "lumberroom/lumlaw.IndexSays", spec := "indexSays", inPlace := ["internal/bytealg.Compare"], unfollowed := true, recurses := true, apart := false }
def IndexSaysSaid : Prop := indexSaysRow.holds Try.pinned (OpenSpec.ofChange indexSaysSpec)

/-- ITS FALSE NEIGHBOUR: 'it returns false'. Refute it at one input. -/
def indexSaysWrong : ChangeSpec := { name := "indexSays", fn := fun _ => fun
  | [d1, d2] => { results := [.lit (.bool false)], args := [d1, d2] }
  | _ => none }
def IndexSaysWrongFalsely : Prop := indexSaysRow.holds Try.pinned (OpenSpec.ofChange indexSaysWrong)

/-- 'lumlaw.IndexMerges': WHATEVER THE INPUT: true; the input reads as it did. -/
def indexMergesSpec : ChangeSpec := { name := "indexMerges", fn := fun _ => fun
  | [d1, d2, d3, d4] => { results := [.lit (.bool true)], args := [d1, d2, d3, d4] }
  | _ => none }
def indexMergesRow : OpenClaim := { program := "ytllioidjelgafaa", sum := "352e776570ca7dcadc5cf0fc05ad90367aa958a785906d890a91f2310a0b3382", func := "lumberroom/lumlaw.IndexMerges", spec := "indexMerges", inPlace := ["internal/bytealg.Compare"], unfollowed := true, recurses := true, apart := false }
def IndexMergesSaid : Prop := indexMergesRow.holds Try.pinned (OpenSpec.ofChange indexMergesSpec)

/-- ITS FALSE NEIGHBOUR: 'it returns false'. Refute it at one input. -/
def indexMergesWrong : ChangeSpec := { name := "indexMerges", fn := fun _ => fun
  | [d1, d2, d3, d4] => { results := [.lit (.bool false)], args := [d1, d2, d3, d4] }
  | _ => none }
def IndexMergesWrongFalsely : Prop := indexMergesRow.holds Try.pinned (OpenSpec.ofChange indexMergesWrong)

/-- 'lumlaw.IndexReads': WHATEVER THE INPUT: true; the input reads as it did. -/
def indexReadsSpec : ChangeSpec := { name := "indexReads", fn := fun _ => fun
  | [d1, d2] => { results := [.lit (.bool true)], args := [d1, d2] }
  | _ => none }
def indexReadsRow : OpenClaim := { program := "ytllioidjelgafaa", sum := "352e776570ca7dcadc5cf0fc05ad90367aa958a785906d890a91f2310a0b3382", func := "lumberroom/lumlaw.IndexReads", spec := "indexReads", inPlace := ["internal/bytealg.Compare"], recurses := true, apart := false }
def IndexReadsSaid : Prop := indexReadsRow.holds Try.pinned (OpenSpec.ofChange indexReadsSpec)

/-- ITS FALSE NEIGHBOUR: 'it returns false'. Refute it at one input. -/
def indexReadsWrong : ChangeSpec := { name := "indexReads", fn := fun _ => fun
  | [d1, d2] => { results := [.lit (.bool false)], args := [d1, d2] }
  | _ => none }
def IndexReadsWrongFalsely : Prop := indexReadsRow.holds Try.pinned (OpenSpec.ofChange indexReadsWrong)

/-- 'lumkeep.IndexFinds': WHATEVER THE INPUT: true; the input reads as it did. -/
def indexFindsSpec : ChangeSpec := { name := "indexFinds", fn := fun _ => fun
  | [d1, d2, d3] => { results := [.lit (.bool true)], args := [d1, d2, d3] }
  | _ => none }
def indexFindsRow : OpenClaim := { program := "ytllioidjelgafaa", sum := "352e776570ca7dcadc5cf0fc05ad90367aa958a785906d890a91f2310a0b3382", func := "lumberroom/lumkeep.IndexFinds", spec := "indexFinds", inPlace := ["internal/bytealg.Compare"], unfollowed := true, recurses := true, apart := false }
def IndexFindsSaid : Prop := indexFindsRow.holds Try.pinned (OpenSpec.ofChange indexFindsSpec)

/-- ITS FALSE NEIGHBOUR: 'it returns false'. Refute it at one input. -/
def indexFindsWrong : ChangeSpec := { name := "indexFinds", fn := fun _ => fun
  | [d1, d2, d3] => { results := [.lit (.bool false)], args := [d1, d2, d3] }
  | _ => none }
def IndexFindsWrongFalsely : Prop := indexFindsRow.holds Try.pinned (OpenSpec.ofChange indexFindsWrong)

/-- 'lumkeep.IndexLattice': WHATEVER THE INPUT: true; the input reads as it did. -/
def indexLatticeSpec : ChangeSpec := { name := "indexLattice", fn := fun _ => fun
  | [d1, d2, d3] => { results := [.lit (.bool true)], args := [d1, d2, d3] }
  | _ => none }
def indexLatticeRow : OpenClaim := { program := "ytllioidjelgafaa", sum := "352e776570ca7dcadc5cf0fc05ad90367aa958a785906d890a91f2310a0b3382", func := "lumberroom/lumkeep.IndexLattice", spec := "indexLattice", inPlace := ["internal/bytealg.Compare"], unfollowed := true, recurses := true, apart := false }
def IndexLatticeSaid : Prop := indexLatticeRow.holds Try.pinned (OpenSpec.ofChange indexLatticeSpec)

/-- ITS FALSE NEIGHBOUR: 'it returns false'. Refute it at one input. -/
def indexLatticeWrong : ChangeSpec := { name := "indexLattice", fn := fun _ => fun
  | [d1, d2, d3] => { results := [.lit (.bool false)], args := [d1, d2, d3] }
  | _ => none }
def IndexLatticeWrongFalsely : Prop := indexLatticeRow.holds Try.pinned (OpenSpec.ofChange indexLatticeWrong)

/-- 'lumkeep.IndexBuild': WHATEVER THE INPUT: true; the input reads as it did. -/
def indexBuildSpec : ChangeSpec := { name := "indexBuild", fn := fun _ => fun
  | [d1, d2, d3] => { results := [.lit (.bool true)], args := [d1, d2, d3] }
  | _ => none }
def indexBuildRow : OpenClaim := { program := "ytllioidjelgafaa", sum := "352e776570ca7dcadc5cf0fc05ad90367aa958a785906d890a91f2310a0b3382", func := "lumberroom/lumkeep.IndexBuild", spec := "indexBuild", inPlace := ["internal/bytealg.Compare"], unfollowed := true, recurses := true, apart := false }
def IndexBuildSaid : Prop := indexBuildRow.holds Try.pinned (OpenSpec.ofChange indexBuildSpec)

/-- ITS FALSE NEIGHBOUR: 'it returns false'. Refute it at one input. -/
def indexBuildWrong : ChangeSpec := { name := "indexBuild", fn := fun _ => fun
  | [d1, d2, d3] => { results := [.lit (.bool false)], args := [d1, d2, d3] }
  | _ => none }
def IndexBuildWrongFalsely : Prop := indexBuildRow.holds Try.pinned (OpenSpec.ofChange indexBuildWrong)

/- THE SECOND FORM. 'bulk': how many values and letters a reading holds, each counted each time it is reached (what is shared counts as often as it is met; a slice's spare places count too). A statement '..UptoSaid' is the law's where the arguments, and the package variables that the reading takes, are together of bulk at most 1048576: NARROWER than '..Said'. Prove '..Said' where nothing that the law and all that it calls make is longer than what came in: it says more and counts as full. Else prove '..UptoSaid'. A law counts once. -/
mutual
def uptoBulk {H : Type} : DataW H → Nat
  | .lit (.string bytes) => bytes.length + 1
  | .lit _ => 1
  | .nil => 1
  | .ptr d => uptoBulk d + 1
  | .slice elems spare => uptoBulkAll elems + uptoBulkAll spare + 1
  | .agg parts => uptoBulkAll parts + 1
  | .iface _ d => uptoBulk d + 1
  | .map entries => uptoBulkEntries entries + 1
  | .held _ => 1
def uptoBulkAll {H : Type} : List (DataW H) → Nat
  | [] => 0
  | d :: r => uptoBulk d + uptoBulkAll r
def uptoBulkEntries {H : Type} : List (Lit × DataW H) → Nat
  | [] => 0
  | x :: r => uptoBulkEntry x + uptoBulkEntries r
def uptoBulkEntry {H : Type} : Lit × DataW H → Nat
  | (.string bytes, d) => bytes.length + uptoBulk d + 1
  | (_, d) => uptoBulk d + 1
 end
def uptoSmall : (H : Type) → List (DataW H) → Bool := fun _ ds => decide (uptoBulkAll ds ≤ 1048576)
def OpenSpec.upto (s : _root_.Go.ChangeSpec) : _root_.Go.OpenSpec := { _root_.Go.OpenSpec.ofChange s with cond := some uptoSmall }

/-- 'lumlaw.IndexSays', WHERE WHAT IT READS IS OF BULK AT MOST 1048576: true; the input reads as it did. -/
def indexSaysUptoRow : OpenClaim := { program := "ytllioidjelgafaa", sum := "352e776570ca7dcadc5cf0fc05ad90367aa958a785906d890a91f2310a0b3382", func := "lumberroom/lumlaw.IndexSays", spec := "indexSays", inPlace := ["internal/bytealg.Compare"], unfollowed := true, recurses := true, apart := false, narrowed := true }
def IndexSaysUptoSaid : Prop := indexSaysUptoRow.holds Try.pinned (OpenSpec.upto indexSaysSpec)

/-- 'lumlaw.IndexMerges', WHERE WHAT IT READS IS OF BULK AT MOST 1048576: true; the input reads as it did. -/
def indexMergesUptoRow : OpenClaim := { program := "ytllioidjelgafaa", sum := "352e776570ca7dcadc5cf0fc05ad90367aa958a785906d890a91f2310a0b3382", func := "lumberroom/lumlaw.IndexMerges", spec := "indexMerges", inPlace := ["internal/bytealg.Compare"], unfollowed := true, recurses := true, apart := false, narrowed := true }
def IndexMergesUptoSaid : Prop := indexMergesUptoRow.holds Try.pinned (OpenSpec.upto indexMergesSpec)

/-- 'lumlaw.IndexReads', WHERE WHAT IT READS IS OF BULK AT MOST 1048576: true; the input reads as it did. -/
def indexReadsUptoRow : OpenClaim := { program := "ytllioidjelgafaa", sum := "352e776570ca7dcadc5cf0fc05ad90367aa958a785906d890a91f2310a0b3382", func := "lumberroom/lumlaw.IndexReads", spec := "indexReads", inPlace := ["internal/bytealg.Compare"], recurses := true, apart := false, narrowed := true }
def IndexReadsUptoSaid : Prop := indexReadsUptoRow.holds Try.pinned (OpenSpec.upto indexReadsSpec)

/-- 'lumkeep.IndexFinds', WHERE WHAT IT READS IS OF BULK AT MOST 1048576: true; the input reads as it did. -/
def indexFindsUptoRow : OpenClaim := { program := "ytllioidjelgafaa", sum := "352e776570ca7dcadc5cf0fc05ad90367aa958a785906d890a91f2310a0b3382", func := "lumberroom/lumkeep.IndexFinds", spec := "indexFinds", inPlace := ["internal/bytealg.Compare"], unfollowed := true, recurses := true, apart := false, narrowed := true }
def IndexFindsUptoSaid : Prop := indexFindsUptoRow.holds Try.pinned (OpenSpec.upto indexFindsSpec)

/-- 'lumkeep.IndexLattice', WHERE WHAT IT READS IS OF BULK AT MOST 1048576: true; the input reads as it did. -/
def indexLatticeUptoRow : OpenClaim := { program := "ytllioidjelgafaa", sum := "352e776570ca7dcadc5cf0fc05ad90367aa958a785906d890a91f2310a0b3382", func := "lumberroom/lumkeep.IndexLattice", spec := "indexLattice", inPlace := ["internal/bytealg.Compare"], unfollowed := true, recurses := true, apart := false, narrowed := true }
def IndexLatticeUptoSaid : Prop := indexLatticeUptoRow.holds Try.pinned (OpenSpec.upto indexLatticeSpec)

/-- 'lumkeep.IndexBuild', WHERE WHAT IT READS IS OF BULK AT MOST 1048576: true; the input reads as it did. -/
def indexBuildUptoRow : OpenClaim := { program := "ytllioidjelgafaa", sum := "352e776570ca7dcadc5cf0fc05ad90367aa958a785906d890a91f2310a0b3382", func := "lumberroom/lumkeep.IndexBuild", spec := "indexBuild", inPlace := ["internal/bytealg.Compare"], unfollowed := true, recurses := true, apart := false, narrowed := true }
def IndexBuildUptoSaid : Prop := indexBuildUptoRow.holds Try.pinned (OpenSpec.upto indexBuildSpec)

end Rows
end Go.Proofs.Ytllioidjelgafaa
