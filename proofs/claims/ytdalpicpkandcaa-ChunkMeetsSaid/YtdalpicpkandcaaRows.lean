/-
  No cell of these rows narrows 'for every input' (looked for: loops, veiled, ifaces, maps, wideKeys, modest, calm, conditions, laid).
  DERIVED. THE GIVEN ROWS OF THIS SEAT. 6 by the template 'for every input the law returns true; each argument reads behind the call as it read before'; 0 by the template 'total and deterministic' (their statements: YtdalpicpkandcaaTotals.lean).
  GIVEN WITH THE SEED: the statements are not yours to turn. If you find one false, say at which input.
  Laid BY PROGRAM, IN A SANDBOX (cutbox-rows.mjs): the forced cells as the released guide's own fill.sh prints them over the translation 0ddd67cbac5a4c1b… (all of the seat's roots in one cut). By AI agents, Wed Nov 11 2026. No macro, syntax, notation, axiom, sorry.
-/
import Derived.Test.YtdalpicpkandcaaChecked
import GoSem.Claim
import GoSem.ClaimJoined
import GoSem.ClaimMapViews
import Derived.JoinedTies
import Derived.KernelRfl
namespace Go.Proofs.Ytdalpicpkandcaa
/- THE CELL 'sum', in the pinned program and in every row, IS THE sha256 OF THE DUMP (.gsa) THAT YtdalpicpkandcaaProg.lean LOADS. Nothing in Lean hashes anything: it is a label: what it is worth is what the hold of that sum in a sandbox is worth. -/
noncomputable def Try.pinned : Pinned := { name := "ytdalpicpkandcaa", sum := "0ddd67cbac5a4c1b6b80e01b52fb731db6be5bed82fbdf75184562b91af7dbd3", checked := Try.checked }
namespace Rows
def none {H : Type} : Left H := { results := [], args := [] }

/-- 'lumlaw.ChunkSays': WHATEVER THE INPUT: true; the input reads as it did. -/
def chunkSaysSpec : ChangeSpec := { name := "chunkSays", fn := fun _ => fun
  | [d1, d2, d3] => { results := [.lit (.bool true)], args := [d1, d2, d3] }
  | _ => none }
def chunkSaysRow : OpenClaim := { program := "ytdalpicpkandcaa", sum := "0ddd67cbac5a4c1b6b80e01b52fb731db6be5bed82fbdf75184562b91af7dbd3", func := "lumberroom/lumlaw.ChunkSays", spec := "chunkSays", unfollowed := true, recurses := true, apart := false }
def ChunkSaysSaid : Prop := chunkSaysRow.holds Try.pinned (OpenSpec.ofChange chunkSaysSpec)

/-- ITS FALSE NEIGHBOUR: 'it returns false'. Refute it at one input. -/
def chunkSaysWrong : ChangeSpec := { name := "chunkSays", fn := fun _ => fun
  | [d1, d2, d3] => { results := [.lit (.bool false)], args := [d1, d2, d3] }
  | _ => none }
def ChunkSaysWrongFalsely : Prop := chunkSaysRow.holds Try.pinned (OpenSpec.ofChange chunkSaysWrong)

/-- 'lumlaw.ChunkFeeds': WHATEVER THE INPUT: true; the input reads as it did. -/
def chunkFeedsSpec : ChangeSpec := { name := "chunkFeeds", fn := fun _ => fun
  | [d1, d2, d3] => { results := [.lit (.bool true)], args := [d1, d2, d3] }
  | _ => none }
def chunkFeedsRow : OpenClaim := { program := "ytdalpicpkandcaa", sum := "0ddd67cbac5a4c1b6b80e01b52fb731db6be5bed82fbdf75184562b91af7dbd3", func := "lumberroom/lumlaw.ChunkFeeds", spec := "chunkFeeds", unfollowed := true, recurses := true, apart := false }
def ChunkFeedsSaid : Prop := chunkFeedsRow.holds Try.pinned (OpenSpec.ofChange chunkFeedsSpec)

/-- ITS FALSE NEIGHBOUR: 'it returns false'. Refute it at one input. -/
def chunkFeedsWrong : ChangeSpec := { name := "chunkFeeds", fn := fun _ => fun
  | [d1, d2, d3] => { results := [.lit (.bool false)], args := [d1, d2, d3] }
  | _ => none }
def ChunkFeedsWrongFalsely : Prop := chunkFeedsRow.holds Try.pinned (OpenSpec.ofChange chunkFeedsWrong)

/-- 'lumlaw.ChunkRanges': WHATEVER THE INPUT: true; the input reads as it did. -/
def chunkRangesSpec : ChangeSpec := { name := "chunkRanges", fn := fun _ => fun
  | [d1, d2, d3] => { results := [.lit (.bool true)], args := [d1, d2, d3] }
  | _ => none }
def chunkRangesRow : OpenClaim := { program := "ytdalpicpkandcaa", sum := "0ddd67cbac5a4c1b6b80e01b52fb731db6be5bed82fbdf75184562b91af7dbd3", func := "lumberroom/lumlaw.ChunkRanges", spec := "chunkRanges", unfollowed := true, recurses := true, apart := false }
def ChunkRangesSaid : Prop := chunkRangesRow.holds Try.pinned (OpenSpec.ofChange chunkRangesSpec)

/-- ITS FALSE NEIGHBOUR: 'it returns false'. Refute it at one input. -/
def chunkRangesWrong : ChangeSpec := { name := "chunkRanges", fn := fun _ => fun
  | [d1, d2, d3] => { results := [.lit (.bool false)], args := [d1, d2, d3] }
  | _ => none }
def ChunkRangesWrongFalsely : Prop := chunkRangesRow.holds Try.pinned (OpenSpec.ofChange chunkRangesWrong)

/-- 'lumkeep.ChunkWhole': WHATEVER THE INPUT: true; the input reads as it did. -/
def chunkWholeSpec : ChangeSpec := { name := "chunkWhole", fn := fun _ => fun
  | [d1, d2, d3] => { results := [.lit (.bool true)], args := [d1, d2, d3] }
  | _ => none }
def chunkWholeRow : OpenClaim := { program := "ytdalpicpkandcaa", sum := "0ddd67cbac5a4c1b6b80e01b52fb731db6be5bed82fbdf75184562b91af7dbd3", func := "lumberroom/lumkeep.ChunkWhole", spec := "chunkWhole", inPlace := ["internal/abi.NoEscape", "internal/bytealg.MakeNoZero"], unfollowed := true, recurses := true, apart := false }
def ChunkWholeSaid : Prop := chunkWholeRow.holds Try.pinned (OpenSpec.ofChange chunkWholeSpec)

/-- ITS FALSE NEIGHBOUR: 'it returns false'. Refute it at one input. -/
def chunkWholeWrong : ChangeSpec := { name := "chunkWhole", fn := fun _ => fun
  | [d1, d2, d3] => { results := [.lit (.bool false)], args := [d1, d2, d3] }
  | _ => none }
def ChunkWholeWrongFalsely : Prop := chunkWholeRow.holds Try.pinned (OpenSpec.ofChange chunkWholeWrong)

/-- 'lumkeep.ChunkLocal': WHATEVER THE INPUT: true; the input reads as it did. -/
def chunkLocalSpec : ChangeSpec := { name := "chunkLocal", fn := fun _ => fun
  | [d1, d2, d3] => { results := [.lit (.bool true)], args := [d1, d2, d3] }
  | _ => none }
def chunkLocalRow : OpenClaim := { program := "ytdalpicpkandcaa", sum := "0ddd67cbac5a4c1b6b80e01b52fb731db6be5bed82fbdf75184562b91af7dbd3", func := "lumberroom/lumkeep.ChunkLocal", spec := "chunkLocal", inPlace := ["internal/abi.NoEscape", "internal/bytealg.MakeNoZero"], unfollowed := true, recurses := true, apart := false }
def ChunkLocalSaid : Prop := chunkLocalRow.holds Try.pinned (OpenSpec.ofChange chunkLocalSpec)

/-- ITS FALSE NEIGHBOUR: 'it returns false'. Refute it at one input. -/
def chunkLocalWrong : ChangeSpec := { name := "chunkLocal", fn := fun _ => fun
  | [d1, d2, d3] => { results := [.lit (.bool false)], args := [d1, d2, d3] }
  | _ => none }
def ChunkLocalWrongFalsely : Prop := chunkLocalRow.holds Try.pinned (OpenSpec.ofChange chunkLocalWrong)

/-- 'lumkeep.ChunkMeets': WHATEVER THE INPUT: true; the input reads as it did. -/
def chunkMeetsSpec : ChangeSpec := { name := "chunkMeets", fn := fun _ => fun
  | [d1, d2, d3, d4] => { results := [.lit (.bool true)], args := [d1, d2, d3, d4] }
  | _ => none }
def chunkMeetsRow : OpenClaim := { program := "ytdalpicpkandcaa", sum := "0ddd67cbac5a4c1b6b80e01b52fb731db6be5bed82fbdf75184562b91af7dbd3", func := "lumberroom/lumkeep.ChunkMeets", spec := "chunkMeets", inPlace := ["internal/abi.NoEscape", "internal/bytealg.MakeNoZero"], unfollowed := true, recurses := true, apart := false }
def ChunkMeetsSaid : Prop := chunkMeetsRow.holds Try.pinned (OpenSpec.ofChange chunkMeetsSpec)

/-- ITS FALSE NEIGHBOUR: 'it returns false'. Refute it at one input. -/
def chunkMeetsWrong : ChangeSpec := { name := "chunkMeets", fn := fun _ => fun
  | [d1, d2, d3, d4] => { results := [.lit (.bool false)], args := [d1, d2, d3, d4] }
  | _ => none }
def ChunkMeetsWrongFalsely : Prop := chunkMeetsRow.holds Try.pinned (OpenSpec.ofChange chunkMeetsWrong)

/- THE SECOND FORM. 'bulk': how many values and letters a reading holds, each counted each time it is reached (what is shared counts as often as it is met; a slice's spare places count too). A statement '..UptoSaid' is the law's where the arguments, and the package variables that the reading takes, are together of bulk at most 1048576: NARROWER than '..Said'. Prove '..Said' where nothing that the law and all that it calls make is longer than what came in: it says more and counts as full. Else prove '..UptoSaid'. A law counts once. -/
mutual
def uptoBulk {H : Type} : DataW H → Nat
  | .lit (.string bytes) => bytes.length + 1
  | .lit _ => 1
  | .nil => 1
  | .ptr d => uptoBulk d + 1
  | .slice elems spare => uptoBulkAll elems + uptoBulkAll spare + 1
  | .agg parts => uptoBulkAll parts + 1
  | .iface _ d => uptoBulk d + 1
  | .map entries => uptoBulkEntries entries + 1
  | .held _ => 1
def uptoBulkAll {H : Type} : List (DataW H) → Nat
  | [] => 0
  | d :: r => uptoBulk d + uptoBulkAll r
def uptoBulkEntries {H : Type} : List (Lit × DataW H) → Nat
  | [] => 0
  | x :: r => uptoBulkEntry x + uptoBulkEntries r
def uptoBulkEntry {H : Type} : Lit × DataW H → Nat
  | (.string bytes, d) => bytes.length + uptoBulk d + 1
  | (_, d) => uptoBulk d + 1
 end
def uptoSmall : (H : Type) → List (DataW H) → Bool := fun _ ds => decide (uptoBulkAll ds ≤ 1048576)
def OpenSpec.upto (s : _root_.Go.ChangeSpec) : _root_.Go.OpenSpec := { _root_.Go.OpenSpec.ofChange s with cond := some uptoSmall }

/-- 'lumlaw.ChunkSays', WHERE WHAT IT READS IS OF BULK AT MOST 1048576: true; the input reads as it did. -/
def chunkSaysUptoRow : OpenClaim := { program := "ytdalpicpkandcaa", sum := "0ddd67cbac5a4c1b6b80e01b52fb731db6be5bed82fbdf75184562b91af7dbd3", func := "lumberroom/lumlaw.ChunkSays", spec := "chunkSays", unfollowed := true, recurses := true, apart := false, narrowed := true }
def ChunkSaysUptoSaid : Prop := chunkSaysUptoRow.holds Try.pinned (OpenSpec.upto chunkSaysSpec)

/-- 'lumlaw.ChunkFeeds', WHERE WHAT IT READS IS OF BULK AT MOST 1048576: true; the input reads as it did. -/
def chunkFeedsUptoRow : OpenClaim := { program := "ytdalpicpkandcaa", sum := "0ddd67cbac5a4c1b6b80e01b52fb731db6be5bed82fbdf75184562b91af7dbd3", func := "lumberroom/lumlaw.ChunkFeeds", spec := "chunkFeeds", unfollowed := true, recurses := true, apart := false, narrowed := true }
def ChunkFeedsUptoSaid : Prop := chunkFeedsUptoRow.holds Try.pinned (OpenSpec.upto chunkFeedsSpec)

/-- 'lumlaw.ChunkRanges', WHERE WHAT IT READS IS OF BULK AT MOST 1048576: true; the input reads as it did. -/
def chunkRangesUptoRow : OpenClaim := { program := "ytdalpicpkandcaa", sum := "0ddd67cbac5a4c1b6b80e01b52fb731db6be5bed82fbdf75184562b91af7dbd3", func := "lumberroom/lumlaw.ChunkRanges", spec := "chunkRanges", unfollowed := true, recurses := true, apart := false, narrowed := true }
def ChunkRangesUptoSaid : Prop := chunkRangesUptoRow.holds Try.pinned (OpenSpec.upto chunkRangesSpec)

/-- 'lumkeep.ChunkWhole', WHERE WHAT IT READS IS OF BULK AT MOST 1048576: true; the input reads as it did. -/
def chunkWholeUptoRow : OpenClaim := { program := "ytdalpicpkandcaa", sum := "0ddd67cbac5a4c1b6b80e01b52fb731db6be5bed82fbdf75184562b91af7dbd3", func := "lumberroom/lumkeep.ChunkWhole", spec := "chunkWhole", inPlace := ["internal/abi.NoEscape", "internal/bytealg.MakeNoZero"], unfollowed := true, recurses := true, apart := false, narrowed := true }
def ChunkWholeUptoSaid : Prop := chunkWholeUptoRow.holds Try.pinned (OpenSpec.upto chunkWholeSpec)

/-- 'lumkeep.ChunkLocal', WHERE WHAT IT READS IS OF BULK AT MOST 1048576: true; the input reads as it did. -/
def chunkLocalUptoRow : OpenClaim := { program := "ytdalpicpkandcaa", sum := "0ddd67cbac5a4c1b6b80e01b52fb731db6be5bed82fbdf75184562b91af7dbd3", func := "lumberroom/lumkeep.ChunkLocal", spec := "chunkLocal", inPlace := ["internal/abi.NoEscape", "internal/bytealg.MakeNoZero"], unfollowed := true, recurses := true, apart := false, narrowed := true }
def ChunkLocalUptoSaid : Prop := chunkLocalUptoRow.holds Try.pinned (OpenSpec.upto chunkLocalSpec)

/-- 'lumkeep.ChunkMeets', WHERE WHAT IT READS IS OF BULK AT MOST 1048576: true; the input reads as it did. -/
def chunkMeetsUptoRow : OpenClaim := { program := "ytdalpicpkandcaa", sum := "0ddd67cbac5a4c1b6b80e01b52fb731db6be5bed82fbdf75184562b91af7dbd3", func := "lumberroom/lumkeep.ChunkMeets", spec := "chunkMeets", inPlace := ["internal/abi.NoEscape", "internal/bytealg.MakeNoZero"], unfollowed := true, recurses := true, apart := false, narrowed := true }
def ChunkMeetsUptoSaid : Prop := chunkMeetsUptoRow.holds Try.pinned (OpenSpec.upto chunkMeetsSpec)

end Rows
end Go.Proofs.Ytdalpicpkandcaa
